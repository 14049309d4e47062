import Derived.Test.YtngglhbcpeigcaaY11
import Derived.Test.YtngglhbcpeigcaaY18
/-
  Sums of fractions of the program: mixed, plus, ratio; RatioSum where the products are small.
-/
namespace Go.Proofs.Ytngglhbcpeigcaa.rat
open Go.ChangeShapes Go.WideShapes Go.ChangeAt Go.RowKit
open Go.Proofs.Ytngglhbcpeigcaa.mem Go.Proofs.Ytngglhbcpeigcaa.ints Go.Proofs.Ytngglhbcpeigcaa.arr Go.Proofs.Ytngglhbcpeigcaa.pm Go.Proofs.Ytngglhbcpeigcaa.permOk Go.Proofs.Ytngglhbcpeigcaa.sf Go.Proofs.Ytngglhbcpeigcaa.gl Go.Proofs.Ytngglhbcpeigcaa.cy
set_option linter.unusedVariables false
set_option maxRecDepth 100000
set_option linter.unusedSimpArgs false

theorem sizeM (a b c : Value) : (Try.prog.info? 67).map (·.size) = some (#[a, b, c] : Array Value).size := by
  rw [show (Try.prog.info? 67).map (·.size) = some 3 by kernel_rfl]; rfl
theorem sizeML (a b c : Value) : (Try.prog.info? 67).map (·.size) = some [a, b, c].length := by
  rw [show (Try.prog.info? 67).map (·.size) = some 3 by kernel_rfl]; rfl
theorem builtM (q a b : Int) : Try.prog.built 67 [(0, .int .i64 q), (1, .agg #[.int .i64 a, .int .i64 b])] = some #[.int .i64 q, .int .i64 a, .int .i64 b] := by kernel_rfl
def mv (q a b : Int) : Value := .agg #[.int .i64 q, .int .i64 a, .int .i64 b]
theorem Hc {base top a : Nat} {w W : World} {xs : List Value} {l : List (Nat × List Value)} (h : Hld base top w ((a, xs) :: l) W) (k : Nat) {v : Value} (e : xs[k]? = some v) : W.cell? ⟨a, k, none⟩ = some v := by simpa using h.fst k v e
theorem Hd {base top a : Nat} {w W : World} {xs : List Value} {p : Nat × List Value} {l : List (Nat × List Value)} (h : Hld base top w (p :: (a, xs) :: l) W) (k : Nat) {v : Value} (e : xs[k]? = some v) : W.cell? ⟨a, k, none⟩ = some v := by simpa using h.snd k v e
set_option maxHeartbeats 4000000 in
theorem mix_impl (n d : Int) (w : World) (hn : -1000000000000 ≤ n ∧ n ≤ 1000000000000) (hd : 1 ≤ d ∧ d ≤ 1000000000000) :
    Calls Try.prog 32 #[.agg #[.int .i64 n, .int .i64 d]] w fun e w' => e = .returned (mv (n.tdiv d) (n.tmod d) d) ∧ Below w.heap.size w w' := by
  have hd0 : ¬ (d = 0) := by omega
  obtain ⟨q, hq⟩ : ∃ q, n.tdiv d = q := ⟨_, rfl⟩
  obtain ⟨m, hm⟩ : ∃ m, n.tmod d = m := ⟨_, rfl⟩
  have f1 : -1000000000000 ≤ q ∧ q ≤ 1000000000000 := by
    have := tdiv_fit (n := n) (g := d.toNat) (by omega)
    rw [show ((d.toNat : Nat) : Int) = d by omega, hq] at this
    omega
  have f2 : -1000000000000 ≤ m ∧ m ≤ 1000000000000 := by
    have h1 := Int.tmod_lt_of_pos n (show 0 < d by omega)
    have h2 := Int.lt_tmod_of_pos n (show 0 < d by omega)
    rw [hm] at h1 h2
    omega
  have wq : IntKind.i64.wrap q = q := IntWalk.i64_in _ (by omega)
  have wm : IntKind.i64.wrap m = m := IntWalk.i64_in _ (by omega)
  have wq2 : IntKind.i64.wrap (n.tdiv d) = q := by rw [hq]; exact wq
  have HQ := Lib.hid hq; have HM := Lib.hid hm
  rw [hq, hm]
  go_enter Try.func32, Try.ntmps32
  go_wp2_with fail
  generalize hw1 : (w.alloc (.cells #[.int .i64 n, .int .i64 d] 24)).alloc (.cells #[.int .i64 0, .int .i64 0, .int .i64 0] 67) = w1
  have A2 : Hid (Arr w1 w.heap.size [.int .i64 n, .int .i64 d] 24) := Lib.hid (by rw [← hw1]; exact (Arr.new w _ _ rfl).alloc _)
  have A4 : Hid (Arr w1 (w.heap.size + 1) [.int .i64 0, .int .i64 0, .int .i64 0] 67) := Lib.hid (by rw [← hw1]; exact Arr.new _ _ _ (by simp))
  have B1 : Hid (Below w.heap.size w w1) := Lib.hid (by rw [← hw1]; exact ((Below.refl _ _).alloc (Nat.le_refl _) _).alloc (by simp) _)
  have s1 : w1.heap.size = w.heap.size + 2 := by rw [← hw1]; simp
  clear hw1
  refine wp_region_held_drew (S := Hld (w.heap.size + 1) w1.heap.size w1 [(w.heap.size, [.int .i64 n, .int .i64 d])]) (by kernel_rfl) ((Hld.start1 A2.out).lower (by omega)) (fun hHeld => ?_)
  have b1 : Below w1.heap.size w1 w1.drew := ⟨rfl, rfl, rfl, Nat.le_refl _, fun _ _ => rfl⟩
  generalize w1.drew = w4 at *
  have s4 := b1.size
  replace A4 := Lib.hid (A4.out.keep b1 A4.out.lt)
  have B4 := Lib.hid (B1.out.trans (b1.mono B1.out.size)); clear b1
  refine wpAnyH_take (i := 0) (v := .pointer (some ⟨w.heap.size, 0, none⟩)) rfl (by kernel_rfl) (by kernel_rfl) (by kernel_rfl) (fun _ _ _ h => h) (Or.inl ⟨by first | kernel_rfl | rfl, fun w hSw => by go_simp⟩) hHeld ?_
  refine wpAnyH_take (i := 1) (v := .int .i64 n) rfl (by kernel_rfl) (by kernel_rfl) (by kernel_rfl) (fun _ _ _ h => h) (Or.inl ⟨by first | kernel_rfl | rfl, fun w hSw => by have h := hSw.c0; go_simp⟩) hHeld ?_
  refine wpAnyH_take (i := 2) (v := .pointer (some ⟨w.heap.size, 1, none⟩)) rfl (by kernel_rfl) (by kernel_rfl) (by kernel_rfl) (fun _ _ _ h => h) (Or.inl ⟨by first | kernel_rfl | rfl, fun w hSw => by go_simp⟩) hHeld ?_
  refine wpAnyH_take (i := 3) (v := .int .i64 d) rfl (by kernel_rfl) (by kernel_rfl) (by kernel_rfl) (fun _ _ _ h => h) (Or.inl ⟨by first | kernel_rfl | rfl, fun w hSw => by have h := hSw.c1; go_simp⟩) hHeld ?_
  refine wpAnyH_take (i := 5) (v := .pointer (some ⟨w.heap.size, 0, none⟩)) rfl (by kernel_rfl) (by kernel_rfl) (by kernel_rfl) (fun _ _ _ h => h) (Or.inl ⟨by first | kernel_rfl | rfl, fun w hSw => by go_simp⟩) hHeld ?_
  refine wpAnyH_take (i := 6) (v := .int .i64 n) rfl (by kernel_rfl) (by kernel_rfl) (by kernel_rfl) (fun _ _ _ h => h) (Or.inl ⟨by first | kernel_rfl | rfl, fun w hSw => by have h := hSw.c0; go_simp⟩) hHeld ?_
  refine wpAnyH_take (i := 7) (v := .pointer (some ⟨w.heap.size, 1, none⟩)) rfl (by kernel_rfl) (by kernel_rfl) (by kernel_rfl) (fun _ _ _ h => h) (Or.inl ⟨by first | kernel_rfl | rfl, fun w hSw => by go_simp⟩) hHeld ?_
  refine wpAnyH_take (i := 8) (v := .int .i64 d) rfl (by kernel_rfl) (by kernel_rfl) (by kernel_rfl) (fun _ _ _ h => h) (Or.inl ⟨by first | kernel_rfl | rfl, fun w hSw => by have h := hSw.c1; go_simp⟩) hHeld ?_
  refine wpAnyH_take (i := 10) (v := .pointer (some ⟨w.heap.size, 1, none⟩)) rfl (by kernel_rfl) (by kernel_rfl) (by kernel_rfl) (fun _ _ _ h => h) (Or.inl ⟨by first | kernel_rfl | rfl, fun w hSw => by go_simp⟩) hHeld ?_
  refine wpAnyH_take (i := 11) (v := .int .i64 d) rfl (by kernel_rfl) (by kernel_rfl) (by kernel_rfl) (fun _ _ _ h => h) (Or.inl ⟨by first | kernel_rfl | rfl, fun w hSw => by have h := hSw.c1; go_simp⟩) hHeld ?_
  refine wpAnyH_take (i := 4) (v := .int .i64 q) rfl (by kernel_rfl) (by kernel_rfl) (by kernel_rfl) (fun _ _ _ h => h) (Or.inl ⟨by first | kernel_rfl | rfl, fun w hSw => by (have e1 := HQ.out; go_simp; try omega)⟩) hHeld ?_
  refine wpAnyH_take (i := 9) (v := .int .i64 m) rfl (by kernel_rfl) (by kernel_rfl) (by kernel_rfl) (fun _ _ _ h => h) (Or.inl ⟨by first | kernel_rfl | rfl, fun w hSw => by (have e1 := HM.out; go_simp; try omega)⟩) hHeld ?_
  refine wpAnyH_take (i := 12) (v := .agg #[.int .i64 m, .int .i64 d]) rfl (by kernel_rfl) (by kernel_rfl) (by kernel_rfl) (fun _ _ _ h => h) (yb (by kernel_rfl) 24 _ rfl [(0, .int .i64 m), (1, .int .i64 d)] (by kernel_rfl) _ (builtR _ _)) hHeld ?_
  refine wpAnyH_take (i := 13) (v := .agg #[.int .i64 q, .int .i64 m, .int .i64 d]) rfl (by kernel_rfl) (by kernel_rfl) (by kernel_rfl) (fun _ _ _ h => h) (yb (by kernel_rfl) 67 _ rfl [(0, .int .i64 q), (1, .agg #[.int .i64 m, .int .i64 d])] (by kernel_rfl) _ (builtM _ _ _)) hHeld ?_
  try dsimp only [List.getElem_toArray, List.getElem_cons_zero, List.getElem_cons_succ]
  try simp only [Act.put, List.setIfInBounds_toArray, List.set_cons_zero, List.set_cons_succ]
  refine wpAnyH_ready (rs := [14]) (by kernel_rfl) (by simp) (AllReadyH.cons rfl (fun K hK => ?_) AllReadyH.nil)
  refine permOf.step_store_row rfl 67 _ _ rfl (w.heap.size + 1) #[.int .i64 q, .int .i64 m, .int .i64 d] rfl rfl 67 #[.int .i64 0, .int .i64 0, .int .i64 0] A4.out (sizeM (.int .i64 q) (.int .i64 m) (.int .i64 d)) rfl (by simp [Value.oneCell']) ?_
  refine hK.out _ _ (hHeld.other (by omega) (by simp) _) (fun hHeld2 => ?_)
  clear hK K hHeld2
  refine wpAnyH_done (by kernel_rfl) ?_ _
  go_wp2_with fail
  exact bodyPost_ret (v := .agg #[.int .i64 q, .int .i64 m, .int .i64 d]) (results_cell_row rfl _ _ (w.heap.size + 1) 67 #[.int .i64 q, .int .i64 m, .int .i64 d] (0, 0) _ rfl A4.out.row Try.underlying67 rfl (sizeM _ _ _)) rfl ⟨rfl, below_setRow B4.out (by omega) _⟩
def gN (a b : Nat) : Nat := Nat.gcd a b
set_option maxHeartbeats 4000000 in
theorem plus_impl (w1 n1 w2 n2 : Int) (d1 d2 l r g : Nat) (w : World) (hg : g = Nat.gcd d1 d2) (el : d1 / g = l) (er : d2 / g = r) (h1 : 1 ≤ d1) (h2 : 1 ≤ d2) (hd : d1 * d2 ≤ 1000000000000)
    (a1 : -1000000000000 ≤ w1 ∧ w1 ≤ 1000000000000) (a2 : -1000000000000 ≤ w2 ∧ w2 ≤ 1000000000000) (b1 : n1.natAbs ≤ d1) (b2 : n2.natAbs ≤ d2) :
    Calls Try.prog 33 #[mv w1 n1 d1, mv w2 n2 d2] w fun e w' => e = .returned (.tuple #[mv (w1 + w2) (n1 * (r : Int) + n2 * (l : Int)) ((d1 : Int) * (r : Int)), .bool true]) ∧ Below w.heap.size w w' := by
  have hgp : 0 < g := by rw [hg]; exact Nat.gcd_pos_of_pos_left _ (by omega)
  have gd1 : g ∣ d1 := by rw [hg]; exact Nat.gcd_dvd_left _ _
  have gd2 : g ∣ d2 := by rw [hg]; exact Nat.gcd_dvd_right _ _
  have l1 : 1 ≤ l := by rw [← el]; exact Nat.div_pos (Nat.le_of_dvd (by omega) gd1) hgp
  have r1 : 1 ≤ r := by rw [← er]; exact Nat.div_pos (Nat.le_of_dvd (by omega) gd2) hgp
  have lle : l ≤ d1 := by rw [← el]; exact Nat.div_le_self _ _
  have rle : r ≤ d2 := by rw [← er]; exact Nat.div_le_self _ _
  have d1l : d1 ≤ 1000000000000 := Nat.le_trans (Nat.le_mul_of_pos_right _ h2) hd
  have d2l : d2 ≤ 1000000000000 := Nat.le_trans (Nat.le_mul_of_pos_left _ h1) hd
  have lr : l * r ≤ 1000000000000 := Nat.le_trans (Nat.mul_le_mul lle rle) hd
  have dr : d1 * r ≤ 1000000000000 := Nat.le_trans (Nat.mul_le_mul_left _ rle) hd
  have ld : d2 * l ≤ 1000000000000 := Nat.le_trans (Nat.mul_le_mul_left _ lle) (by rw [Nat.mul_comm]; exact hd)
  obtain ⟨p1, hp1⟩ : ∃ p, n1 * (r : Int) = p := ⟨_, rfl⟩
  obtain ⟨p2, hp2⟩ : ∃ p, n2 * (l : Int) = p := ⟨_, rfl⟩
  obtain ⟨p3, hp3⟩ : ∃ p, (d1 : Int) * (r : Int) = p := ⟨_, rfl⟩
  have z1 : -1000000000000 ≤ p1 ∧ p1 ≤ 1000000000000 := by
    have h : p1.natAbs = n1.natAbs * r := by rw [← hp1, Int.natAbs_mul, Int.natAbs_natCast]
    have := Nat.mul_le_mul_right r b1
    omega
  have z2 : -1000000000000 ≤ p2 ∧ p2 ≤ 1000000000000 := by
    have h : p2.natAbs = n2.natAbs * l := by rw [← hp2, Int.natAbs_mul, Int.natAbs_natCast]
    have := Nat.mul_le_mul_right l b2
    omega
  have z3 : -1000000000000 ≤ p3 ∧ p3 ≤ 1000000000000 := by
    have h : p3 = ((d1 * r : Nat) : Int) := by rw [← hp3, Int.natCast_mul]
    omega
  obtain ⟨t, ht⟩ : ∃ t, 1000000000000 / r = t := ⟨_, rfl⟩
  have tl : t ≤ 1000000000000 := by rw [← ht]; exact Nat.div_le_self _ _
  have lt_ : l ≤ t := by rw [← ht]; exact (Nat.le_div_iff_mul_le (by omega)).2 lr
  have et : (1000000000000 : Int).tdiv (r : Int) = (t : Int) := by rw [← ht]; rfl
  have q1 : (d1 : Int).tdiv (g : Int) = (l : Int) := by rw [← el]; rfl
  have q2 : (d2 : Int).tdiv (g : Int) = (r : Int) := by rw [← er]; rfl
  have v1 : IntKind.i64.wrap (l : Int) = (l : Int) := IntWalk.i64_in _ (by omega)
  have v2 : IntKind.i64.wrap (r : Int) = (r : Int) := IntWalk.i64_in _ (by omega)
  have v3 : IntKind.i64.wrap (t : Int) = (t : Int) := IntWalk.i64_in _ (by omega)
  have hg0 : ¬ ((g : Int) = 0) := by omega
  have hr0 : ¬ ((r : Int) = 0) := by omega
  have x1 : wrap64 p1 = p1 := IntWalk.wrap64_in _ (by omega)
  have x2 : wrap64 p2 = p2 := IntWalk.wrap64_in _ (by omega)
  have x3 : wrap64 p3 = p3 := IntWalk.wrap64_in _ (by omega)
  obtain ⟨ws, hws⟩ : ∃ x, w1 + w2 = x := ⟨_, rfl⟩
  obtain ⟨ps, hps⟩ : ∃ x, p1 + p2 = x := ⟨_, rfl⟩
  have x4 : wrap64 ws = ws := IntWalk.wrap64_in _ (by omega)
  have x5 : wrap64 ps = ps := IntWalk.wrap64_in _ (by omega)
  have G1 : Hid (g = Nat.gcd d1 d2) := Lib.hid hg
  have lt' : decide ((t : Int) < (l : Int)) = false := by simp; omega
  have lt2 : decide (t < l) = false := by simp; omega
  have b3 : d1 ≤ 4611686018427387904 ∧ d2 ≤ 4611686018427387904 := by omega
  rw [hp1, hp2, hp3, hws, hps]
  have ET := Lib.hid et; have Q1 := Lib.hid q1; have Q2 := Lib.hid q2; have H1 := Lib.hid hp1; have H2 := Lib.hid hp2; have H3 := Lib.hid hp3
  clear hg el er gd1 gd2 hd b1 b2 lr dr ld z1 z2 z3 ht lt_ et q1 q2 hp1 hp2 hp3
  unfold mv
  go_enter Try.func33, Try.ntmps33
  have C2 : Hid (∀ (x y : Obj), Arr (((w.alloc (.cells #[.int .i64 w1, .int .i64 n1, .int .i64 d1] 67)).alloc x).alloc y) w.heap.size [.int .i64 w1, .int .i64 n1, .int .i64 d1] 67) := Lib.hid (fun x y => ((Arr.new w _ _ rfl).alloc _).alloc _)
  have C3 : Hid (∀ (x y : Obj), Arr (((w.alloc x).alloc (.cells #[.int .i64 w2, .int .i64 n2, .int .i64 d2] 67)).alloc y) (w.heap.size + 1) [.int .i64 w2, .int .i64 n2, .int .i64 d2] 67) := Lib.hid (fun x y => (Arr.new _ _ _ (by simp)).alloc _)
  have cc0 := (C2.out (.cells #[.int .i64 w2, .int .i64 n2, .int .i64 d2] 67) (.cells #[.int .i64 0, .int .i64 0, .int .i64 0] 67)).cell (k := 2) rfl
  have cc1 := (C3.out (.cells #[.int .i64 w1, .int .i64 n1, .int .i64 d1] 67) (.cells #[.int .i64 0, .int .i64 0, .int .i64 0] 67)).cell (k := 2) rfl
  go_wp2_with fail
  clear cc0 cc1
  generalize hw1 : ((w.alloc (.cells #[.int .i64 w1, .int .i64 n1, .int .i64 d1] 67)).alloc (.cells #[.int .i64 w2, .int .i64 n2, .int .i64 d2] 67)).alloc (.cells #[.int .i64 0, .int .i64 0, .int .i64 0] 67) = y1
  have A2 : Hid (Arr y1 w.heap.size [.int .i64 w1, .int .i64 n1, .int .i64 d1] 67) := Lib.hid (by rw [← hw1]; exact C2.out _ _)
  have A3 : Hid (Arr y1 (w.heap.size + 1) [.int .i64 w2, .int .i64 n2, .int .i64 d2] 67) := Lib.hid (by rw [← hw1]; exact C3.out _ _)
  have A4 : Hid (Arr y1 (w.heap.size + 2) [.int .i64 0, .int .i64 0, .int .i64 0] 67) := Lib.hid (by rw [← hw1]; exact Arr.new _ _ _ (by simp))
  have B1 : Hid (Below w.heap.size w y1) := Lib.hid (by rw [← hw1]; exact (((Below.refl _ _).alloc (Nat.le_refl _) _).alloc (by simp) _).alloc (by simp <;> omega) _)
  have s1 : y1.heap.size = w.heap.size + 3 := by rw [← hw1]; simp
  clear hw1 C2 C3
  refine (gcdI d1 d2 g _ G1.out b3.1 b3.2).mono ?_
  rintro e y3 ⟨rfl, hdr⟩
  have b3 := drawn_below hdr; clear hdr
  have s3 := b3.size
  replace A2 := Lib.hid (A2.out.keep b3 A2.out.lt)
  replace A3 := Lib.hid (A3.out.keep b3 A3.out.lt)
  replace A4 := Lib.hid (A4.out.keep b3 A4.out.lt)
  replace B1 := Lib.hid (B1.out.trans (b3.mono B1.out.size)); clear b3
  go_wp2_with fail
  refine wp_region_held_drew (S := Hld y3.heap.size y3.heap.size y3 [(w.heap.size, [.int .i64 w1, .int .i64 n1, .int .i64 d1]), (w.heap.size + 1, [.int .i64 w2, .int .i64 n2, .int .i64 d2])]) (by kernel_rfl) (Hld.start2 A2.out A3.out) (fun hHeld => ?_)
  have b1 : Below y3.heap.size y3 y3.drew := ⟨rfl, rfl, rfl, Nat.le_refl _, fun _ _ => rfl⟩
  generalize y3.drew = y4 at *
  have s4 := b1.size
  replace A2 := Lib.hid (A2.out.keep b1 A2.out.lt)
  replace A3 := Lib.hid (A3.out.keep b1 A3.out.lt)
  replace A4 := Lib.hid (A4.out.keep b1 A4.out.lt)
  replace B1 := Lib.hid (B1.out.trans (b1.mono B1.out.size)); clear b1
  refine wpAnyH_take (i := 0) (v := .pointer (some ⟨w.heap.size, 1, none⟩)) rfl (by kernel_rfl) (by kernel_rfl) (by kernel_rfl) (fun _ _ _ h => h) (Or.inl ⟨by first | kernel_rfl | rfl, fun w hSw => by go_simp⟩) hHeld ?_
  refine wpAnyH_take (i := 1) (v := .pointer (some ⟨w.heap.size, 2, none⟩)) rfl (by kernel_rfl) (by kernel_rfl) (by kernel_rfl) (fun _ _ _ h => h) (Or.inl ⟨by first | kernel_rfl | rfl, fun w hSw => by go_simp⟩) hHeld ?_
  refine wpAnyH_take (i := 2) (v := .int .i64 d1) rfl (by kernel_rfl) (by kernel_rfl) (by kernel_rfl) (fun _ _ _ h => h) (Or.inl ⟨by first | kernel_rfl | rfl, fun w hSw => by have h := Hc hSw 2 rfl; go_simp⟩) hHeld ?_
  refine wpAnyH_take (i := 3) (v := .int .i64 g) rfl (by kernel_rfl) (by kernel_rfl) (by kernel_rfl) (fun _ _ _ h => h) (Or.inl ⟨by first | kernel_rfl | rfl, fun w hSw => by go_simp⟩) hHeld ?_
  refine wpAnyH_take (i := 5) (v := .pointer (some ⟨w.heap.size + 1, 1, none⟩)) rfl (by kernel_rfl) (by kernel_rfl) (by kernel_rfl) (fun _ _ _ h => h) (Or.inl ⟨by first | kernel_rfl | rfl, fun w hSw => by go_simp⟩) hHeld ?_
  refine wpAnyH_take (i := 6) (v := .pointer (some ⟨w.heap.size + 1, 2, none⟩)) rfl (by kernel_rfl) (by kernel_rfl) (by kernel_rfl) (fun _ _ _ h => h) (Or.inl ⟨by first | kernel_rfl | rfl, fun w hSw => by go_simp⟩) hHeld ?_
  refine wpAnyH_take (i := 7) (v := .int .i64 d2) rfl (by kernel_rfl) (by kernel_rfl) (by kernel_rfl) (fun _ _ _ h => h) (Or.inl ⟨by first | kernel_rfl | rfl, fun w hSw => by have h := Hd hSw 2 rfl; go_simp⟩) hHeld ?_
  refine wpAnyH_take (i := 8) (v := .int .i64 g) rfl (by kernel_rfl) (by kernel_rfl) (by kernel_rfl) (fun _ _ _ h => h) (Or.inl ⟨by first | kernel_rfl | rfl, fun w hSw => by go_simp⟩) hHeld ?_
  refine wpAnyH_take (i := 4) (v := .int .i64 l) rfl (by kernel_rfl) (by kernel_rfl) (by kernel_rfl) (fun _ _ _ h => h) (Or.inl ⟨by first | kernel_rfl | rfl, fun w hSw => by (have e1 := Q1.out; go_simp; try omega)⟩) hHeld ?_
  refine wpAnyH_take (i := 9) (v := .int .i64 r) rfl (by kernel_rfl) (by kernel_rfl) (by kernel_rfl) (fun _ _ _ h => h) (Or.inl ⟨by first | kernel_rfl | rfl, fun w hSw => by (have e1 := Q2.out; go_simp; try omega)⟩) hHeld ?_
  refine wpAnyH_take (i := 10) (v := .int .i64 l) rfl (by kernel_rfl) (by kernel_rfl) (by kernel_rfl) (fun _ _ _ h => h) (Or.inl ⟨by first | kernel_rfl | rfl, fun w hSw => by go_simp⟩) hHeld ?_
  refine wpAnyH_take (i := 11) (v := .int .i64 r) rfl (by kernel_rfl) (by kernel_rfl) (by kernel_rfl) (fun _ _ _ h => h) (Or.inl ⟨by first | kernel_rfl | rfl, fun w hSw => by go_simp⟩) hHeld ?_
  refine wpAnyH_done (by kernel_rfl) ?_ _
  try dsimp only [List.getElem_toArray, List.getElem_cons_zero, List.getElem_cons_succ]
  try simp only [Act.put, List.setIfInBounds_toArray, List.set_cons_zero, List.set_cons_succ]
  clear hHeld
  have c20 := A2.out.cell (k := 0) rfl; have c21 := A2.out.cell (k := 1) rfl; have c22 := A2.out.cell (k := 2) rfl
  have c30 := A3.out.cell (k := 0) rfl; have c31 := A3.out.cell (k := 1) rfl
  have et := ET.out; have hp1 := H1.out; have hp2 := H2.out; have hp3 := H3.out
  go_wp2_with (first | (refine wpList_build rfl 24 _ rfl [(0, .int .i64 ps), (1, .int .i64 p3)] rfl #[.int .i64 ps, .int .i64 p3] (builtR _ _) ?_) | (refine wpList_build rfl 67 _ rfl [(0, .int .i64 ws), (1, .agg #[.int .i64 ps, .int .i64 p3])] rfl #[.int .i64 ws, .int .i64 ps, .int .i64 p3] (builtM _ _ _) ?_) | (refine wpList_store_row rfl 67 _ _ rfl (w.heap.size + 2) #[.int .i64 ws, .int .i64 ps, .int .i64 p3] rfl rfl 67 #[.int .i64 0, .int .i64 0, .int .i64 0] A4.out (sizeM _ _ _) rfl (by simp [Value.oneCell']) ?_) | fail)
  exact bodyPost_ret (v := .tuple #[.agg #[.int .i64 ws, .int .i64 ps, .int .i64 p3], .bool true]) (permOf.results_cell_tmp rfl _ _ (w.heap.size + 2) 67 #[.int .i64 ws, .int .i64 ps, .int .i64 p3] (0, 0) _ _ rfl rfl A4.out.row Try.underlying67 rfl (sizeM _ _ _)) rfl ⟨rfl, below_setRow B1.out (by omega) _⟩
set_option maxHeartbeats 4000000 in
theorem rat_impl (W n : Int) (d : Nat) (w : World) (hn : -2000000000000 ≤ n ∧ n ≤ 2000000000000) (h1 : 1 ≤ d) (h2 : d ≤ 1000000000000) (hW : W.natAbs * d ≤ 1000000000000) :
    Calls Try.prog 34 #[mv W n d] w fun e w' => e = .returned (rv (ofF (W * (nrm n d).2 + (nrm n d).1) (nrm n d).2)) ∧ Below w.heap.size w w' := by
  obtain ⟨a, b0, e0, g1, g2, g3, g4, g5⟩ := nrm_all (n := n) (d := (d : Int)) (by omega)
  obtain ⟨b, rfl⟩ : ∃ b : Nat, b0 = (b : Int) := ⟨b0.toNat, by omega⟩
  have W1 : W.natAbs ≤ 1000000000000 := Nat.le_trans (Nat.le_mul_of_pos_right _ h1) hW
  have Wb : W.natAbs * b ≤ 1000000000000 := Nat.le_trans (Nat.mul_le_mul_left _ (by omega)) hW
  obtain ⟨p, hp⟩ : ∃ p, W * (b : Int) = p := ⟨_, rfl⟩
  have zp : -1000000000000 ≤ p ∧ p ≤ 1000000000000 := by
    have h : p.natAbs = W.natAbs * b := by rw [← hp, Int.natAbs_mul, Int.natAbs_natCast]
    omega
  obtain ⟨t, ht⟩ : ∃ t, 1000000000000 / b = t := ⟨_, rfl⟩
  have tl : t ≤ 1000000000000 := by rw [← ht]; exact Nat.div_le_self _ _
  have Wt : W.natAbs ≤ t := by rw [← ht]; exact (Nat.le_div_iff_mul_le (by omega)).2 Wb
  have et : (1000000000000 : Int).tdiv (b : Int) = (t : Int) := by rw [← ht]; rfl
  have v3 : IntKind.i64.wrap (t : Int) = (t : Int) := IntWalk.i64_in _ (by omega)
  have hb0 : ¬ ((b : Int) = 0) := by omega
  obtain ⟨m, hm⟩ : ∃ m : Nat, W.natAbs = m := ⟨_, rfl⟩
  have hneg : IntKind.i64.wrap (-W) = -W := IntWalk.i64_in _ (by omega)
  have hmx : (if -W > W then -W else W) = (m : Int) := by split <;> omega
  have hm2 : IntKind.i64.wrap ((m : Int) - 2) = (m : Int) - 2 := IntWalk.i64_in _ (by omega)
  have hlt : decide ((t : Int) < (m : Int) - 2) = false := by simp; omega
  obtain ⟨y, hy⟩ : ∃ y, p + a = y := ⟨_, rfl⟩
  have x1 : wrap64 p = p := IntWalk.wrap64_in _ (by omega)
  have x2 : wrap64 y = y := IntWalk.wrap64_in _ (by omega)
  have yl : -9223372036854775808 ≤ y ∧ y ≤ 9223372036854775807 := by omega
  have bl : 1 ≤ b ∧ b ≤ 1000000000000 := by omega
  have E0 := Lib.hid e0; have HP := Lib.hid hp; have ET := Lib.hid et; have HY := Lib.hid hy
  rw [e0]
  dsimp only
  rw [hp, hy]
  have hdl : 1 ≤ (d : Int) ∧ (d : Int) ≤ 2000000000000000000 := by omega
  have hnl : -2000000000000000000 ≤ n ∧ n ≤ 2000000000000000000 := by omega
  clear e0 hp et hy g1 g2 g3 g4 g5 hW W1 Wb zp ht tl Wt h1 h2 hn
  unfold mv
  go_enter Try.func34, Try.ntmps34
  have C2 : Hid (∀ (x : Obj), Arr ((w.alloc (.cells #[.int .i64 W, .int .i64 n, .int .i64 d] 67)).alloc x) w.heap.size [.int .i64 W, .int .i64 n, .int .i64 d] 67) := Lib.hid (fun x => (Arr.new w _ _ rfl).alloc _)
  have RX : Hid (∀ (x : Obj), ((w.alloc (.cells #[.int .i64 W, .int .i64 n, .int .i64 d] 67)).alloc x).rangeAt w.heap.size 1 [.int .i64 n, .int .i64 d]) := Lib.hid (fun x => two_cells ((C2.out x).cell (k := 1) rfl) ((C2.out x).cell (k := 2) rfl))
  go_wp2_with (first | (refine wpList_load_mid rfl 24 _ rfl w.heap.size 1 rfl [.int .i64 n, .int .i64 d] _ (RX.out _) Try.underlying24 rfl (sizeRL _ _) ?_) | fail)
  generalize hw1 : (w.alloc (.cells #[.int .i64 W, .int .i64 n, .int .i64 d] 67)).alloc (.cells #[.int .i64 0, .int .i64 0] 24) = y1
  have A2 : Hid (Arr y1 w.heap.size [.int .i64 W, .int .i64 n, .int .i64 d] 67) := Lib.hid (by rw [← hw1]; exact C2.out _)
  have A4 : Hid (Arr y1 (w.heap.size + 1) [.int .i64 0, .int .i64 0] 24) := Lib.hid (by rw [← hw1]; exact Arr.new _ _ _ (by simp))
  have B1 : Hid (Below w.heap.size w y1) := Lib.hid (by rw [← hw1]; exact ((Below.refl _ _).alloc (Nat.le_refl _) _).alloc (by simp) _)
  have s1 : y1.heap.size = w.heap.size + 2 := by rw [← hw1]; simp
  clear hw1 C2 RX
  refine (red_impl n d _ hnl hdl).mono ?_
  rintro e y2 ⟨rfl, b1⟩
  rw [E0.out]
  have s2 := b1.size
  replace A2 := Lib.hid (A2.out.keep b1 A2.out.lt)
  replace A4 := Lib.hid (A4.out.keep b1 A4.out.lt)
  replace B1 := Lib.hid (B1.out.trans (b1.mono B1.out.size)); clear b1
  unfold rv
  go_wp2_with (first | (refine wpList_store_row rfl 24 _ _ rfl y2.heap.size #[.int .i64 a, .int .i64 (b : Int)] rfl rfl 24 #[.int .i64 0, .int .i64 0] (Arr.new y2 _ _ rfl) (sizeR _ _) rfl (by simp [Value.oneCell']) ?_) | fail)
  generalize hw3 : (y2.alloc (.cells #[.int .i64 0, .int .i64 0] 24)).setRow y2.heap.size #[.int .i64 a, .int .i64 (b : Int)] = y3
  have A5 : Hid (Arr y3 y2.heap.size [.int .i64 a, .int .i64 (b : Int)] 24) := Lib.hid (by rw [← hw3]; exact Arr.row (Arr.new y2 [.int .i64 0, .int .i64 0] _ rfl))
  have b1 : Below y2.heap.size y2 y3 := (by rw [← hw3]; exact arr.below_setRow ((Below.refl _ _).alloc (Nat.le_refl _) _) (Nat.le_refl _) _)
  have s3 : y3.heap.size = y2.heap.size + 1 := (by rw [← hw3]; simp)
  clear hw3
  replace A2 := Lib.hid (A2.out.keep b1 A2.out.lt)
  replace A4 := Lib.hid (A4.out.keep b1 A4.out.lt)
  replace B1 := Lib.hid (B1.out.trans (b1.mono B1.out.size)); clear b1
  refine wp_region_held_drew (S := Hld y3.heap.size y3.heap.size y3 [(w.heap.size, [.int .i64 W, .int .i64 n, .int .i64 d]), (y2.heap.size, [.int .i64 a, .int .i64 (b : Int)])]) (by kernel_rfl) (Hld.start2 A2.out A5.out) (fun hHeld => ?_)
  have b1 : Below y3.heap.size y3 y3.drew := ⟨rfl, rfl, rfl, Nat.le_refl _, fun _ _ => rfl⟩
  generalize y3.drew = y4 at *
  have s4 := b1.size
  replace A2 := Lib.hid (A2.out.keep b1 A2.out.lt)
  replace A4 := Lib.hid (A4.out.keep b1 A4.out.lt)
  replace A5 := Lib.hid (A5.out.keep b1 A5.out.lt)
  replace B1 := Lib.hid (B1.out.trans (b1.mono B1.out.size)); clear b1
  refine wpAnyH_take (i := 0) (v := .pointer (some ⟨w.heap.size, 0, none⟩)) rfl (by kernel_rfl) (by kernel_rfl) (by kernel_rfl) (fun _ _ _ h => h) (Or.inl ⟨by first | kernel_rfl | rfl, fun w hSw => by go_simp⟩) hHeld ?_
  refine wpAnyH_take (i := 1) (v := .int .i64 W) rfl (by kernel_rfl) (by kernel_rfl) (by kernel_rfl) (fun _ _ _ h => h) (Or.inl ⟨by first | kernel_rfl | rfl, fun w hSw => by have h := Hc hSw 0 rfl; go_simp⟩) hHeld ?_
  refine wpAnyH_take (i := 2) (v := .pointer (some ⟨w.heap.size, 0, none⟩)) rfl (by kernel_rfl) (by kernel_rfl) (by kernel_rfl) (fun _ _ _ h => h) (Or.inl ⟨by first | kernel_rfl | rfl, fun w hSw => by go_simp⟩) hHeld ?_
  refine wpAnyH_take (i := 3) (v := .int .i64 W) rfl (by kernel_rfl) (by kernel_rfl) (by kernel_rfl) (fun _ _ _ h => h) (Or.inl ⟨by first | kernel_rfl | rfl, fun w hSw => by have h := Hc hSw 0 rfl; go_simp⟩) hHeld ?_
  refine wpAnyH_take (i := 7) (v := .pointer (some ⟨y2.heap.size, 1, none⟩)) rfl (by kernel_rfl) (by kernel_rfl) (by kernel_rfl) (fun _ _ _ h => h) (Or.inl ⟨by first | kernel_rfl | rfl, fun w hSw => by go_simp⟩) hHeld ?_
  refine wpAnyH_take (i := 8) (v := .int .i64 (b : Int)) rfl (by kernel_rfl) (by kernel_rfl) (by kernel_rfl) (fun _ _ _ h => h) (Or.inl ⟨by first | kernel_rfl | rfl, fun w hSw => by have h := Hd hSw 1 rfl; go_simp⟩) hHeld ?_
  refine wpAnyH_take (i := 4) (v := .int .i64 (-W)) rfl (by kernel_rfl) (by kernel_rfl) (by kernel_rfl) (fun _ _ _ h => h) (Or.inl ⟨by first | kernel_rfl | rfl, fun w hSw => by go_simp⟩) hHeld ?_
  refine wpAnyH_take (i := 5) (v := .int .i64 m) rfl (by kernel_rfl) (by kernel_rfl) (by kernel_rfl) (fun _ _ _ h => h) (Or.inl ⟨by first | kernel_rfl | rfl, fun w hSw => by go_simp⟩) hHeld ?_
  refine wpAnyH_take (i := 6) (v := .int .i64 ((m : Int) - 2)) rfl (by kernel_rfl) (by kernel_rfl) (by kernel_rfl) (fun _ _ _ h => h) (Or.inl ⟨by first | kernel_rfl | rfl, fun w hSw => by go_simp⟩) hHeld ?_
  refine wpAnyH_take (i := 9) (v := .int .i64 t) rfl (by kernel_rfl) (by kernel_rfl) (by kernel_rfl) (fun _ _ _ h => h) (Or.inl ⟨by first | kernel_rfl | rfl, fun w hSw => by (have e1 := ET.out; go_simp; try omega)⟩) hHeld ?_
  refine wpAnyH_take (i := 10) (v := .bool false) rfl (by kernel_rfl) (by kernel_rfl) (by kernel_rfl) (fun _ _ _ h => h) (Or.inl ⟨by first | kernel_rfl | rfl, fun w hSw => by go_simp⟩) hHeld ?_
  refine wpAnyH_done (by kernel_rfl) ?_ _
  try dsimp only [List.getElem_toArray, List.getElem_cons_zero, List.getElem_cons_succ]
  try simp only [Act.put, List.setIfInBounds_toArray, List.set_cons_zero, List.set_cons_succ]
  clear hHeld
  have c20 := A2.out.cell (k := 0) rfl; have c50 := A5.out.cell (k := 0) rfl; have c51 := A5.out.cell (k := 1) rfl
  have hp := HP.out; have hy := HY.out
  go_wp2_with fail
  refine (rof_impl y b _ (by omega) (by omega) (by omega) (by omega)).mono ?_
  rintro e y5 ⟨rfl, b1⟩
  have s5 := b1.size
  replace A4 := Lib.hid (A4.out.keep b1 A4.out.lt)
  replace B1 := Lib.hid (B1.out.trans (b1.mono B1.out.size)); clear b1
  obtain ⟨⟨f, h⟩, hfh⟩ : ∃ q, q = ofF y b := ⟨_, rfl⟩
  rw [← hfh]
  have HFH := Lib.hid hfh; clear hfh c20 c50 c51 hp hy
  unfold rv
  go_wp2_with (first | (refine wpList_store_row rfl 24 _ _ rfl (w.heap.size + 1) #[.int .i64 f, .int .i64 h] rfl rfl 24 #[.int .i64 0, .int .i64 0] A4.out (sizeR _ _) rfl (by simp [Value.oneCell']) ?_) | fail)
  exact bodyPost_ret (v := .agg #[.int .i64 f, .int .i64 h]) (results_cell_row rfl _ _ (w.heap.size + 1) 24 #[.int .i64 f, .int .i64 h] (0, 0) _ rfl A4.out.row Try.underlying24 rfl (sizeR _ _)) rfl ⟨by rw [← HFH.out]; rfl, below_setRow B1.out (by omega) _⟩
theorem sum_alg {n1 n2 x1 x2 y1 y2 W N D a b d1 d2 l r g : Int} (f1 : d1 = g * l) (f2 : d2 = g * r) (eW : x1 + x2 = W) (eN : y1 * r + y2 * l = N) (eD : d1 * r = D) (e1 : y1 + d1 * x1 = n1) (e2 : y2 + d2 * x2 = n2) (ev : a * D = N * b) :
    (W * b + a) * (d1 * d2) = (n1 * d2 + n2 * d1) * b := by
  have c1 : N * g = y1 * d2 + y2 * d1 := by subst f1 f2 eN; grind
  have c2 : D * g = d1 * d2 := by subst f2 eD; grind
  have c4 : a * (d1 * d2) = (y1 * d2 + y2 * d1) * b := by rw [← c2, ← c1]; grind
  subst e1 e2 eW
  grind
/-- The sum, as the program makes it. -/
theorem sum_eq {n1 n2 : Int} {d1 d2 : Nat} (o1 : okR n1 d1 = true) (o2 : okR n2 d2 = true) (hn : (n1.natAbs * d2 + n2.natAbs * d1 : Nat) ≤ 1000000000000) (hd : (d1 * d2 : Nat) ≤ 1000000000000)
    {g l r : Nat} (hg : g = Nat.gcd d1 d2) (el : d1 / g = l) (er : d2 / g = r) {W N : Int} {D : Nat} (eW : n1.tdiv d1 + n2.tdiv d2 = W) (eN : n1.tmod d1 * (r : Int) + n2.tmod d2 * (l : Int) = N) (eD : d1 * r = D) :
    (-2000000000000 ≤ N ∧ N ≤ 2000000000000) ∧ 1 ≤ D ∧ D ≤ 1000000000000 ∧ W.natAbs * D ≤ 1000000000000 ∧ ofF (W * (nrm N D).2 + (nrm N D).1) (nrm N D).2 = rsF n1 d1 n2 d2 := by
  obtain ⟨⟨p1, q1⟩, r1, g1⟩ := okR_facts o1
  obtain ⟨⟨p2, q2⟩, r2, g2⟩ := okR_facts o2
  have hgp : 0 < g := by rw [hg]; exact Nat.gcd_pos_of_pos_left _ (by omega)
  have gd1 : g ∣ d1 := by rw [hg]; exact Nat.gcd_dvd_left _ _
  have gd2 : g ∣ d2 := by rw [hg]; exact Nat.gcd_dvd_right _ _
  have f1 : d1 = g * l := by rw [← el]; exact (Nat.mul_div_cancel' gd1).symm
  have f2 : d2 = g * r := by rw [← er]; exact (Nat.mul_div_cancel' gd2).symm
  have l1 : 1 ≤ l := by rw [← el]; exact Nat.div_pos (Nat.le_of_dvd (by omega) gd1) hgp
  have rr1 : 1 ≤ r := by rw [← er]; exact Nat.div_pos (Nat.le_of_dvd (by omega) gd2) hgp
  have lle : l ≤ d1 := by rw [← el]; exact Nat.div_le_self _ _
  have rle : r ≤ d2 := by rw [← er]; exact Nat.div_le_self _ _
  have m1 := Int.natAbs_tmod n1 d1
  have m2 := Int.natAbs_tmod n2 d2
  have t1 := Int.natAbs_tdiv n1 d1
  have t2 := Int.natAbs_tdiv n2 d2
  rw [Int.natAbs_natCast] at m1 m2 t1 t2
  have k1 : (n1.tmod d1).natAbs < d1 := by rw [m1]; exact Nat.mod_lt _ (by omega)
  have k2 : (n2.tmod d2).natAbs < d2 := by rw [m2]; exact Nat.mod_lt _ (by omega)
  have e1 := Int.tmod_add_mul_tdiv n1 d1
  have e2 := Int.tmod_add_mul_tdiv n2 d2
  have DD : D ≤ d1 * d2 := by rw [← eD]; exact Nat.mul_le_mul_left _ rle
  have D1 : 1 ≤ D := by rw [← eD]; exact Nat.mul_pos (by omega) rr1
  have hN : N.natAbs ≤ 2000000000000 := by
    have h1 : (n1.tmod d1 * (r : Int)).natAbs ≤ d1 * d2 := by rw [Int.natAbs_mul, Int.natAbs_natCast]; exact Nat.mul_le_mul (by omega) rle
    have h2 : (n2.tmod d2 * (l : Int)).natAbs ≤ d2 * d1 := by rw [Int.natAbs_mul, Int.natAbs_natCast]; exact Nat.mul_le_mul (by omega) lle
    rw [Nat.mul_comm] at h2
    omega
  have hW : W.natAbs * D ≤ 1000000000000 := by
    have h1 : (n1.tdiv d1).natAbs * (d1 * d2) ≤ n1.natAbs * d2 := by
      rw [t1, ← Nat.mul_assoc]; exact Nat.mul_le_mul_right _ (Nat.div_mul_le_self _ _)
    have h2 : (n2.tdiv d2).natAbs * (d1 * d2) ≤ n2.natAbs * d1 := by
      rw [t2, Nat.mul_comm d1, ← Nat.mul_assoc]; exact Nat.mul_le_mul_right _ (Nat.div_mul_le_self _ _)
    have h3 : W.natAbs ≤ (n1.tdiv d1).natAbs + (n2.tdiv d2).natAbs := by rw [← eW]; exact Int.natAbs_add_le _ _
    have h4 : W.natAbs * D ≤ ((n1.tdiv d1).natAbs + (n2.tdiv d2).natAbs) * (d1 * d2) := Nat.mul_le_mul h3 DD
    rw [Nat.add_mul] at h4
    omega
  refine ⟨by omega, D1, by omega, hW, ?_⟩
  obtain ⟨a, b, e0, b1, gg, ev, la, lb⟩ := nrm_all (n := N) (d := (D : Int)) (by omega)
  rw [e0]
  dsimp only
  have o1' : okR n1 (d1 : Int) = true := o1
  have R := rsF_val o1 o2 (by rw [Int.natAbs_natCast, Int.natAbs_natCast]; exact hn) (by rw [Int.natAbs_natCast, Int.natAbs_natCast]; exact hd)
  -- the value: (W b + a) / b = (n1 d2 + n2 d1) / (d1 d2)
  have key : (W * b + a) * ((d1 : Int) * d2) = (n1 * d2 + n2 * d1) * b := by
    exact sum_alg (g := (g : Int)) (l := (l : Int)) (r := (r : Int)) (by rw [f1]; simp) (by rw [f2]; simp) eW eN (by rw [← eD]; simp) e1 e2 ev
  have bnd : (W * b + a).natAbs ≤ 1000000000000 := by
    have hb : b.natAbs ≤ d1 * d2 := by omega
    have h1 : (W * b + a).natAbs * (d1 * d2) = (n1 * d2 + n2 * d1).natAbs * b.natAbs := by
      rw [← Int.natAbs_mul, ← key, Int.natAbs_mul]; congr 1
    have h2 : (n1 * (d2 : Int) + n2 * d1).natAbs ≤ n1.natAbs * d2 + n2.natAbs * d1 := by
      have := Int.natAbs_add_le (n1 * (d2 : Int)) (n2 * (d1 : Int))
      rw [Int.natAbs_mul, Int.natAbs_mul, Int.natAbs_natCast, Int.natAbs_natCast] at this
      exact this
    have h3 : (n1 * (d2 : Int) + n2 * d1).natAbs * b.natAbs ≤ 1000000000000 * (d1 * d2) := Nat.mul_le_mul (by omega) hb
    have h4 : 0 < d1 * d2 := Nat.mul_pos (by omega) (by omega)
    rw [← h1] at h3
    exact Nat.le_of_mul_le_mul_right h3 h4
  have I1 := Is.ofF (n := W * b + a) (d := b) ⟨b1, by simp only [MP]; omega⟩ ⟨by simp only [MP]; omega, by simp only [MP]; omega⟩
  have I2 : Is (rsF n1 d1 n2 d2) (n1 * d2 + n2 * d1) ((d1 : Int) * d2) := ⟨R.1, R.2.1, by rw [← Int.natCast_mul]; have : 0 < d1 * d2 := Nat.mul_pos (by omega) (by omega); omega⟩
  exact I1.uniq I2 key
set_option maxHeartbeats 8000000 in
theorem rsum_impl0 (n1 n2 : Int) (d1 d2 : Nat) (w : World) (o1 : okR n1 d1 = true) (o2 : okR n2 d2 = true) (hn : (n1.natAbs * d2 + n2.natAbs * d1 : Nat) ≤ 1000000000000) (hd : (d1 * d2 : Nat) ≤ 1000000000000) :
    Calls Try.prog 10 #[.agg #[.int .i64 n1, .int .i64 d1], .agg #[.int .i64 n2, .int .i64 d2]] w fun e w' => e = .returned (rv (rsF n1 d1 n2 d2)) ∧ Below w.heap.size w w' := by
  obtain ⟨⟨p1, q1⟩, r1, g1⟩ := okR_facts o1
  obtain ⟨⟨p2, q2⟩, r2, g2⟩ := okR_facts o2
  obtain ⟨g, hg⟩ : ∃ g, g = Nat.gcd d1 d2 := ⟨_, rfl⟩
  obtain ⟨l, el⟩ : ∃ l, d1 / g = l := ⟨_, rfl⟩
  obtain ⟨r, er⟩ : ∃ r, d2 / g = r := ⟨_, rfl⟩
  obtain ⟨x1, hx1⟩ : ∃ x, n1.tdiv d1 = x := ⟨_, rfl⟩
  obtain ⟨x2, hx2⟩ : ∃ x, n2.tdiv d2 = x := ⟨_, rfl⟩
  obtain ⟨y1, hy1⟩ : ∃ x, n1.tmod d1 = x := ⟨_, rfl⟩
  obtain ⟨y2, hy2⟩ : ∃ x, n2.tmod d2 = x := ⟨_, rfl⟩
  obtain ⟨W, eW⟩ : ∃ W, x1 + x2 = W := ⟨_, rfl⟩
  obtain ⟨N, eN⟩ : ∃ N, y1 * (r : Int) + y2 * (l : Int) = N := ⟨_, rfl⟩
  obtain ⟨D, eD⟩ : ∃ D, d1 * r = D := ⟨_, rfl⟩
  obtain ⟨s1, s2, s3, s4, s5⟩ := sum_eq (W := W) (N := N) (D := D) o1 o2 hn hd hg el er (by rw [hx1, hx2]; exact eW) (by rw [hy1, hy2]; exact eN) eD
  have t1 := Int.natAbs_tdiv n1 d1
  have t2 := Int.natAbs_tdiv n2 d2
  have m1 := Int.natAbs_tmod n1 d1
  have m2 := Int.natAbs_tmod n2 d2
  rw [Int.natAbs_natCast] at m1 m2 t1 t2
  rw [hx1] at t1; rw [hx2] at t2; rw [hy1] at m1; rw [hy2] at m2
  have k1 : y1.natAbs ≤ d1 := by rw [m1]; exact Nat.le_of_lt (Nat.mod_lt _ (by omega))
  have k2 : y2.natAbs ≤ d2 := by rw [m2]; exact Nat.le_of_lt (Nat.mod_lt _ (by omega))
  have k3 : x1.natAbs ≤ n1.natAbs := by rw [t1]; exact Nat.div_le_self _ _
  have k4 : x2.natAbs ≤ n2.natAbs := by rw [t2]; exact Nat.div_le_self _ _
  have M1 : Hid (∀ w, Calls Try.prog 32 #[.agg #[.int .i64 n1, .int .i64 d1]] w fun e w' => e = .returned (mv x1 y1 d1) ∧ Below w.heap.size w w') :=
    Lib.hid (fun w => by have h := mix_impl n1 d1 w r1 ⟨p1, q1⟩; rwa [hx1, hy1] at h)
  have M2 : Hid (∀ w, Calls Try.prog 32 #[.agg #[.int .i64 n2, .int .i64 d2]] w fun e w' => e = .returned (mv x2 y2 d2) ∧ Below w.heap.size w w') :=
    Lib.hid (fun w => by have h := mix_impl n2 d2 w r2 ⟨p2, q2⟩; rwa [hx2, hy2] at h)
  have PL : Hid (∀ w, Calls Try.prog 33 #[mv x1 y1 d1, mv x2 y2 d2] w fun e w' => e = .returned (.tuple #[mv W N D, .bool true]) ∧ Below w.heap.size w w') :=
    Lib.hid (fun w => by
      have h := plus_impl x1 y1 x2 y2 d1 d2 l r g w hg el er (by omega) (by omega) hd (by omega) (by omega) k1 k2
      rw [eW, eN, ← Int.natCast_mul, eD] at h
      exact h)
  have RT : Hid (∀ w, Calls Try.prog 34 #[mv W N D] w fun e w' => e = .returned (rv (rsF n1 d1 n2 d2)) ∧ Below w.heap.size w w') :=
    Lib.hid (fun w => by
      have h := rat_impl W N D w s1 s2 s3 s4
      rw [s5] at h
      exact h)
  have OK1 : Hid (∀ w, Calls Try.prog 12 #[.agg #[.int .i64 n1, .int .i64 d1]] w fun e w' => e = .returned (.bool true) ∧ Below w.heap.size w w') :=
    Lib.hid (fun w => by have h := rok_impl n1 d1 w (by omega) (by omega) (by omega) (by omega); rwa [o1] at h)
  have OK2 : Hid (∀ w, Calls Try.prog 12 #[.agg #[.int .i64 n2, .int .i64 d2]] w fun e w' => e = .returned (.bool true) ∧ Below w.heap.size w w') :=
    Lib.hid (fun w => by have h := rok_impl n2 d2 w (by omega) (by omega) (by omega) (by omega); rwa [o2] at h)
  obtain ⟨⟨f, h⟩, hfh⟩ : ∃ q, q = rsF n1 d1 n2 d2 := ⟨_, rfl⟩
  rw [← hfh] at RT ⊢
  clear hfh k1 k2 k3 k4 t1 t2 m1 m2 s1 s2 s3 s4 s5 eW eN eD hx1 hx2 hy1 hy2 el er hg o1 o2 hn hd p1 q1 r1 g1 p2 q2 r2 g2
  generalize (d1 : Int) = d1 at *
  generalize (d2 : Int) = d2 at *
  generalize (D : Int) = D at *
  go_enter Try.func10, Try.ntmps10
  go_wp2_with fail
  generalize hw1 : ((w.alloc (.cells #[.int .i64 n1, .int .i64 d1] 24)).alloc (.cells #[.int .i64 n2, .int .i64 d2] 24)).alloc (.cells #[.int .i64 0, .int .i64 0] 24) = w1
  have A2 : Hid (Arr w1 w.heap.size [.int .i64 n1, .int .i64 d1] 24) := Lib.hid (by rw [← hw1]; exact ((Arr.new w _ _ rfl).alloc _).alloc _)
  have A3 : Hid (Arr w1 (w.heap.size + 1) [.int .i64 n2, .int .i64 d2] 24) := Lib.hid (by rw [← hw1]; exact (Arr.new _ _ _ (by simp)).alloc _)
  have A4 : Hid (Arr w1 (w.heap.size + 2) [.int .i64 0, .int .i64 0] 24) := Lib.hid (by rw [← hw1]; exact Arr.new _ _ _ (by simp))
  have B1 : Hid (Below w.heap.size w w1) := Lib.hid (by rw [← hw1]; exact (((Below.refl _ _).alloc (Nat.le_refl _) _).alloc (by simp) _).alloc (by simp <;> omega) _)
  have s1 : w1.heap.size = w.heap.size + 3 := by rw [← hw1]; simp
  clear hw1
  go_wp2_with (first | (refine wpList_load_row rfl 24 _ rfl w.heap.size rfl 24 #[.int .i64 n1, .int .i64 d1] (0, 0) _ A2.out Try.underlying24 rfl (sizeR _ _) ?_) | fail)
  refine (OK1.out _).mono ?_
  rintro e w2 ⟨rfl, b1⟩
  have s2 := b1.size
  replace A2 := Lib.hid (A2.out.keep b1 A2.out.lt)
  replace A3 := Lib.hid (A3.out.keep b1 A3.out.lt)
  replace A4 := Lib.hid (A4.out.keep b1 A4.out.lt)
  replace B1 := Lib.hid (B1.out.trans (b1.mono B1.out.size))
  clear b1
  go_wp2_with (first | (refine fns.wpList_load_row_g rfl 24 _ rfl (w.heap.size + 1) rfl 24 #[.int .i64 n2, .int .i64 d2] (0, 0) _ A3.out Try.underlying24 rfl (sizeR _ _) ?_) | fail)
  refine (OK2.out _).mono ?_
  rintro e w3 ⟨rfl, b1⟩
  have s3 := b1.size
  replace A2 := Lib.hid (A2.out.keep b1 A2.out.lt)
  replace A3 := Lib.hid (A3.out.keep b1 A3.out.lt)
  replace A4 := Lib.hid (A4.out.keep b1 A4.out.lt)
  replace B1 := Lib.hid (B1.out.trans (b1.mono B1.out.size))
  clear b1
  go_wp2_with fail
  try simp only [Act.put]
  have s3' : w.heap.size + 3 ≤ w3.heap.size := by omega
  clear s1 s2 s3
  go_cut [4, 5, 6] from 3 to 4 (fun o p q wx => ∃ g, o = .pointer (some ⟨w.heap.size + 2, 0, none⟩) ∧ p = .pointer (some ⟨g, 0, none⟩) ∧ q = .bool true ∧ w3.heap.size ≤ g ∧ Hid (Arr wx g [.int .i64 W, .int .i64 N, .int .i64 D] 67) ∧ Hid (Below w3.heap.size w3 wx))
  case first =>
    refine wp_region_held_drew (S := Hld w3.heap.size w3.heap.size w3 [(w.heap.size, [.int .i64 n1, .int .i64 d1]), (w.heap.size + 1, [.int .i64 n2, .int .i64 d2])]) (by kernel_rfl) (Hld.start2 A2.out A3.out) (fun hHeld => ?_)
    have b1 : Below w3.heap.size w3 w3.drew := ⟨rfl, rfl, rfl, Nat.le_refl _, fun _ _ => rfl⟩
    generalize w3.drew = v0 at *
    have s_0 := b1.size
    have BW := Lib.hid b1; clear b1
    refine wpAnyH_take (i := 0) (v := .agg #[.int .i64 n1, .int .i64 d1]) rfl (by kernel_rfl) (by kernel_rfl) (by kernel_rfl) (fun _ _ _ h => h) (yieldsIf_load_mid (by kernel_rfl) 24 _ rfl w.heap.size 0 (by kernel_rfl) [.int .i64 n1, .int .i64 d1] _ (fun w h => h.fst) Try.underlying24 rfl (sizeRL _ _)) hHeld ?_
    refine wpAnyH_take (i := 2) (v := .agg #[.int .i64 n2, .int .i64 d2]) rfl (by kernel_rfl) (by kernel_rfl) (by kernel_rfl) (fun _ _ _ h => h) (yieldsIf_load_mid (by kernel_rfl) 24 _ rfl (w.heap.size + 1) 0 (by kernel_rfl) [.int .i64 n2, .int .i64 d2] _ (fun w h => h.snd) Try.underlying24 rfl (sizeRL _ _)) hHeld ?_
    refine wpAnyH_ready (rs := [1, 8]) (by kernel_rfl) (by simp) (AllReadyH.cons rfl (fun K hK => ?_) (AllReadyH.cons rfl (fun K hK => ?_) AllReadyH.nil))
    · go_simp
      refine (M1.out _).mono ?_
      rintro e v1 ⟨rfl, b1⟩
      have s_1 := b1.size
      replace BW := Lib.hid (BW.out.trans (b1.mono BW.out.size))
      unfold mv
      go_wp2_with fail
      have hHeld2 := hHeld.later b1 (by omega); clear b1 hHeld
      refine hK.out _ _ hHeld2 (fun hHeld => ?_)
      clear hK K hHeld2
      refine wpAnyH_ready (rs := [3, 8]) (by kernel_rfl) (by simp) (AllReadyH.cons rfl (fun K hK => ?_) (AllReadyH.cons rfl (fun K hK => ?_) AllReadyH.nil))
      · go_simp
        refine (M2.out _).mono ?_
        rintro e v2 ⟨rfl, b1⟩
        have s_2 := b1.size
        replace BW := Lib.hid (BW.out.trans (b1.mono BW.out.size))
        unfold mv
        go_wp2_with fail
        have hHeld2 := hHeld.later b1 (by omega); clear b1 hHeld
        refine hK.out _ _ hHeld2 (fun hHeld => ?_)
        clear hK K hHeld2
        refine wpAnyH_ready (rs := [4, 8]) (by kernel_rfl) (by simp) (AllReadyH.cons rfl (fun K hK => ?_) (AllReadyH.cons rfl (fun K hK => ?_) AllReadyH.nil))
        · go_simp
          refine (PL.out _).mono ?_
          rintro e v3 ⟨rfl, b1⟩
          have s_3 := b1.size
          replace BW := Lib.hid (BW.out.trans (b1.mono BW.out.size))
          unfold mv
          go_wp2_with fail
          have hHeld2 := hHeld.later b1 (by omega); clear b1 hHeld
          refine hK.out _ _ hHeld2 (fun hHeld => ?_)
          clear hK K hHeld2
          refine wpAnyH_take (i := 5) (v := .tuple #[.agg #[.int .i64 W, .int .i64 N, .int .i64 D], .bool true]) rfl (by kernel_rfl) (by kernel_rfl) (by kernel_rfl) (fun _ _ _ h => h) (Or.inl ⟨by first | kernel_rfl | rfl, fun w hSw => by go_simp⟩) hHeld ?_
          refine wpAnyH_take (i := 6) (v := .agg #[.int .i64 W, .int .i64 N, .int .i64 D]) rfl (by kernel_rfl) (by kernel_rfl) (by kernel_rfl) (fun _ _ _ h => h) (Or.inl ⟨by first | kernel_rfl | rfl, fun w hSw => by go_simp⟩) hHeld ?_
          refine wpAnyH_take (i := 7) (v := .bool true) rfl (by kernel_rfl) (by kernel_rfl) (by kernel_rfl) (fun _ _ _ h => h) (Or.inl ⟨by first | kernel_rfl | rfl, fun w hSw => by go_simp⟩) hHeld ?_
          try dsimp only [List.getElem_toArray, List.getElem_cons_zero, List.getElem_cons_succ]
          try simp only [Act.put, List.setIfInBounds_toArray, List.set_cons_zero, List.set_cons_succ]
          refine wpAnyH_ready (rs := [8]) (by kernel_rfl) (by simp) (AllReadyH.cons rfl (fun K hK => ?_) AllReadyH.nil)
          go_simp
          generalize hwa : v3.alloc (.cells #[.int .i64 0, .int .i64 0, .int .i64 0] 67) = v4
          have b1 : Below v3.heap.size v3 v4 := by rw [← hwa]; exact (Below.refl _ _).alloc (Nat.le_refl _) _
          have AL : Hid (Arr v4 v3.heap.size [.int .i64 0, .int .i64 0, .int .i64 0] 67) := Lib.hid (by rw [← hwa]; exact Arr.new _ _ _ rfl)
          have s_4 : v3.heap.size + 1 ≤ v4.heap.size := by rw [← hwa]; simp
          clear hwa
          replace BW := Lib.hid (BW.out.trans (b1.mono BW.out.size))
          have hHeld2 := hHeld.later b1 (by omega); clear b1 hHeld
          refine hK.out _ _ hHeld2 (fun hHeld => ?_)
          clear hK K hHeld2
          try dsimp only [List.getElem_toArray, List.getElem_cons_zero, List.getElem_cons_succ]
          try simp only [Act.put, List.setIfInBounds_toArray, List.set_cons_zero, List.set_cons_succ]
          refine wpAnyH_ready (rs := [9]) (by kernel_rfl) (by simp) (AllReadyH.cons rfl (fun K hK => ?_) AllReadyH.nil)
          refine permOf.step_store_row rfl 67 _ _ rfl (v3.heap.size) #[.int .i64 W, .int .i64 N, .int .i64 D] rfl rfl 67 #[.int .i64 0, .int .i64 0, .int .i64 0] AL.out (sizeM _ _ _) rfl (by simp [Value.oneCell']) ?_
          refine hK.out _ _ (hHeld.other (by omega) (by simp; omega) _) (fun hHeld2 => ?_)
          clear hK K hHeld
          have hHeld := hHeld2; clear hHeld2
          refine wpAnyH_take (i := 10) (v := .bool true) rfl (by kernel_rfl) (by kernel_rfl) (by kernel_rfl) (fun _ _ _ h => h) (Or.inl ⟨by first | kernel_rfl | rfl, fun w hSw => by go_simp⟩) hHeld ?_
          refine wpAnyH_done (by kernel_rfl) ?_ _
          clear hHeld
          try dsimp only [List.getElem_toArray, List.getElem_cons_zero, List.getElem_cons_succ]
          try simp only [Act.put, List.setIfInBounds_toArray, List.set_cons_zero, List.set_cons_succ]
          go_wp2_with fail
          go_meet
          exact ⟨_, rfl, rfl, rfl, by omega, Lib.hid AL.out.row, Lib.hid (below_setRow BW.out (by omega) _)⟩
        · go_simp
          generalize hwa : v2.alloc (.cells #[.int .i64 0, .int .i64 0, .int .i64 0] 67) = v3
          have b1 : Below v2.heap.size v2 v3 := by rw [← hwa]; exact (Below.refl _ _).alloc (Nat.le_refl _) _
          have AL : Hid (Arr v3 v2.heap.size [.int .i64 0, .int .i64 0, .int .i64 0] 67) := Lib.hid (by rw [← hwa]; exact Arr.new _ _ _ rfl)
          have s_3 : v2.heap.size + 1 ≤ v3.heap.size := by rw [← hwa]; simp
          clear hwa
          replace BW := Lib.hid (BW.out.trans (b1.mono BW.out.size))
          have hHeld2 := hHeld.later b1 (by omega); clear b1 hHeld
          refine hK.out _ _ hHeld2 (fun hHeld => ?_)
          clear hK K hHeld2
          refine wpAnyH_ready (rs := [4]) (by kernel_rfl) (by simp) (AllReadyH.cons rfl (fun K hK => ?_) AllReadyH.nil)
          go_simp
          refine (PL.out _).mono ?_
          rintro e v4 ⟨rfl, b1⟩
          have s_4 := b1.size
          replace BW := Lib.hid (BW.out.trans (b1.mono BW.out.size))
          replace AL := Lib.hid (AL.out.keep b1 AL.out.lt)
          unfold mv
          go_wp2_with fail
          have hHeld2 := hHeld.later b1 (by omega); clear b1 hHeld
          refine hK.out _ _ hHeld2 (fun hHeld => ?_)
          clear hK K hHeld2
          refine wpAnyH_take (i := 5) (v := .tuple #[.agg #[.int .i64 W, .int .i64 N, .int .i64 D], .bool true]) rfl (by kernel_rfl) (by kernel_rfl) (by kernel_rfl) (fun _ _ _ h => h) (Or.inl ⟨by first | kernel_rfl | rfl, fun w hSw => by go_simp⟩) hHeld ?_
          refine wpAnyH_take (i := 6) (v := .agg #[.int .i64 W, .int .i64 N, .int .i64 D]) rfl (by kernel_rfl) (by kernel_rfl) (by kernel_rfl) (fun _ _ _ h => h) (Or.inl ⟨by first | kernel_rfl | rfl, fun w hSw => by go_simp⟩) hHeld ?_
          refine wpAnyH_take (i := 7) (v := .bool true) rfl (by kernel_rfl) (by kernel_rfl) (by kernel_rfl) (fun _ _ _ h => h) (Or.inl ⟨by first | kernel_rfl | rfl, fun w hSw => by go_simp⟩) hHeld ?_
          try dsimp only [List.getElem_toArray, List.getElem_cons_zero, List.getElem_cons_succ]
          try simp only [Act.put, List.setIfInBounds_toArray, List.set_cons_zero, List.set_cons_succ]
          try dsimp only [List.getElem_toArray, List.getElem_cons_zero, List.getElem_cons_succ]
          try simp only [Act.put, List.setIfInBounds_toArray, List.set_cons_zero, List.set_cons_succ]
          refine wpAnyH_ready (rs := [9]) (by kernel_rfl) (by simp) (AllReadyH.cons rfl (fun K hK => ?_) AllReadyH.nil)
          refine permOf.step_store_row rfl 67 _ _ rfl (v2.heap.size) #[.int .i64 W, .int .i64 N, .int .i64 D] rfl rfl 67 #[.int .i64 0, .int .i64 0, .int .i64 0] AL.out (sizeM _ _ _) rfl (by simp [Value.oneCell']) ?_
          refine hK.out _ _ (hHeld.other (by omega) (by simp; omega) _) (fun hHeld2 => ?_)
          clear hK K hHeld
          have hHeld := hHeld2; clear hHeld2
          refine wpAnyH_take (i := 10) (v := .bool true) rfl (by kernel_rfl) (by kernel_rfl) (by kernel_rfl) (fun _ _ _ h => h) (Or.inl ⟨by first | kernel_rfl | rfl, fun w hSw => by go_simp⟩) hHeld ?_
          refine wpAnyH_done (by kernel_rfl) ?_ _
          clear hHeld
          try dsimp only [List.getElem_toArray, List.getElem_cons_zero, List.getElem_cons_succ]
          try simp only [Act.put, List.setIfInBounds_toArray, List.set_cons_zero, List.set_cons_succ]
          go_wp2_with fail
          go_meet
          exact ⟨_, rfl, rfl, rfl, by omega, Lib.hid AL.out.row, Lib.hid (below_setRow BW.out (by omega) _)⟩
      · go_simp
        generalize hwa : v1.alloc (.cells #[.int .i64 0, .int .i64 0, .int .i64 0] 67) = v2
        have b1 : Below v1.heap.size v1 v2 := by rw [← hwa]; exact (Below.refl _ _).alloc (Nat.le_refl _) _
        have AL : Hid (Arr v2 v1.heap.size [.int .i64 0, .int .i64 0, .int .i64 0] 67) := Lib.hid (by rw [← hwa]; exact Arr.new _ _ _ rfl)
        have s_2 : v1.heap.size + 1 ≤ v2.heap.size := by rw [← hwa]; simp
        clear hwa
        replace BW := Lib.hid (BW.out.trans (b1.mono BW.out.size))
        have hHeld2 := hHeld.later b1 (by omega); clear b1 hHeld
        refine hK.out _ _ hHeld2 (fun hHeld => ?_)
        clear hK K hHeld2
        refine wpAnyH_ready (rs := [3]) (by kernel_rfl) (by simp) (AllReadyH.cons rfl (fun K hK => ?_) AllReadyH.nil)
        go_simp
        refine (M2.out _).mono ?_
        rintro e v3 ⟨rfl, b1⟩
        have s_3 := b1.size
        replace BW := Lib.hid (BW.out.trans (b1.mono BW.out.size))
        replace AL := Lib.hid (AL.out.keep b1 AL.out.lt)
        unfold mv
        go_wp2_with fail
        have hHeld2 := hHeld.later b1 (by omega); clear b1 hHeld
        refine hK.out _ _ hHeld2 (fun hHeld => ?_)
        clear hK K hHeld2
        refine wpAnyH_ready (rs := [4]) (by kernel_rfl) (by simp) (AllReadyH.cons rfl (fun K hK => ?_) AllReadyH.nil)
        go_simp
        refine (PL.out _).mono ?_
        rintro e v4 ⟨rfl, b1⟩
        have s_4 := b1.size
        replace BW := Lib.hid (BW.out.trans (b1.mono BW.out.size))
        replace AL := Lib.hid (AL.out.keep b1 AL.out.lt)
        unfold mv
        go_wp2_with fail
        have hHeld2 := hHeld.later b1 (by omega); clear b1 hHeld
        refine hK.out _ _ hHeld2 (fun hHeld => ?_)
        clear hK K hHeld2
        refine wpAnyH_take (i := 5) (v := .tuple #[.agg #[.int .i64 W, .int .i64 N, .int .i64 D], .bool true]) rfl (by kernel_rfl) (by kernel_rfl) (by kernel_rfl) (fun _ _ _ h => h) (Or.inl ⟨by first | kernel_rfl | rfl, fun w hSw => by go_simp⟩) hHeld ?_
        refine wpAnyH_take (i := 6) (v := .agg #[.int .i64 W, .int .i64 N, .int .i64 D]) rfl (by kernel_rfl) (by kernel_rfl) (by kernel_rfl) (fun _ _ _ h => h) (Or.inl ⟨by first | kernel_rfl | rfl, fun w hSw => by go_simp⟩) hHeld ?_
        refine wpAnyH_take (i := 7) (v := .bool true) rfl (by kernel_rfl) (by kernel_rfl) (by kernel_rfl) (fun _ _ _ h => h) (Or.inl ⟨by first | kernel_rfl | rfl, fun w hSw => by go_simp⟩) hHeld ?_
        try dsimp only [List.getElem_toArray, List.getElem_cons_zero, List.getElem_cons_succ]
        try simp only [Act.put, List.setIfInBounds_toArray, List.set_cons_zero, List.set_cons_succ]
        try dsimp only [List.getElem_toArray, List.getElem_cons_zero, List.getElem_cons_succ]
        try simp only [Act.put, List.setIfInBounds_toArray, List.set_cons_zero, List.set_cons_succ]
        refine wpAnyH_ready (rs := [9]) (by kernel_rfl) (by simp) (AllReadyH.cons rfl (fun K hK => ?_) AllReadyH.nil)
        refine permOf.step_store_row rfl 67 _ _ rfl (v1.heap.size) #[.int .i64 W, .int .i64 N, .int .i64 D] rfl rfl 67 #[.int .i64 0, .int .i64 0, .int .i64 0] AL.out (sizeM _ _ _) rfl (by simp [Value.oneCell']) ?_
        refine hK.out _ _ (hHeld.other (by omega) (by simp; omega) _) (fun hHeld2 => ?_)
        clear hK K hHeld
        have hHeld := hHeld2; clear hHeld2
        refine wpAnyH_take (i := 10) (v := .bool true) rfl (by kernel_rfl) (by kernel_rfl) (by kernel_rfl) (fun _ _ _ h => h) (Or.inl ⟨by first | kernel_rfl | rfl, fun w hSw => by go_simp⟩) hHeld ?_
        refine wpAnyH_done (by kernel_rfl) ?_ _
        clear hHeld
        try dsimp only [List.getElem_toArray, List.getElem_cons_zero, List.getElem_cons_succ]
        try simp only [Act.put, List.setIfInBounds_toArray, List.set_cons_zero, List.set_cons_succ]
        go_wp2_with fail
        go_meet
        exact ⟨_, rfl, rfl, rfl, by omega, Lib.hid AL.out.row, Lib.hid (below_setRow BW.out (by omega) _)⟩
    · go_simp
      generalize hwa : v0.alloc (.cells #[.int .i64 0, .int .i64 0, .int .i64 0] 67) = v1
      have b1 : Below v0.heap.size v0 v1 := by rw [← hwa]; exact (Below.refl _ _).alloc (Nat.le_refl _) _
      have AL : Hid (Arr v1 v0.heap.size [.int .i64 0, .int .i64 0, .int .i64 0] 67) := Lib.hid (by rw [← hwa]; exact Arr.new _ _ _ rfl)
      have s_1 : v0.heap.size + 1 ≤ v1.heap.size := by rw [← hwa]; simp
      clear hwa
      replace BW := Lib.hid (BW.out.trans (b1.mono BW.out.size))
      have hHeld2 := hHeld.later b1 (by omega); clear b1 hHeld
      refine hK.out _ _ hHeld2 (fun hHeld => ?_)
      clear hK K hHeld2
      refine wpAnyH_ready (rs := [1]) (by kernel_rfl) (by simp) (AllReadyH.cons rfl (fun K hK => ?_) AllReadyH.nil)
      go_simp
      refine (M1.out _).mono ?_
      rintro e v2 ⟨rfl, b1⟩
      have s_2 := b1.size
      replace BW := Lib.hid (BW.out.trans (b1.mono BW.out.size))
      replace AL := Lib.hid (AL.out.keep b1 AL.out.lt)
      unfold mv
      go_wp2_with fail
      have hHeld2 := hHeld.later b1 (by omega); clear b1 hHeld
      refine hK.out _ _ hHeld2 (fun hHeld => ?_)
      clear hK K hHeld2
      refine wpAnyH_ready (rs := [3]) (by kernel_rfl) (by simp) (AllReadyH.cons rfl (fun K hK => ?_) AllReadyH.nil)
      go_simp
      refine (M2.out _).mono ?_
      rintro e v3 ⟨rfl, b1⟩
      have s_3 := b1.size
      replace BW := Lib.hid (BW.out.trans (b1.mono BW.out.size))
      replace AL := Lib.hid (AL.out.keep b1 AL.out.lt)
      unfold mv
      go_wp2_with fail
      have hHeld2 := hHeld.later b1 (by omega); clear b1 hHeld
      refine hK.out _ _ hHeld2 (fun hHeld => ?_)
      clear hK K hHeld2
      refine wpAnyH_ready (rs := [4]) (by kernel_rfl) (by simp) (AllReadyH.cons rfl (fun K hK => ?_) AllReadyH.nil)
      go_simp
      refine (PL.out _).mono ?_
      rintro e v4 ⟨rfl, b1⟩
      have s_4 := b1.size
      replace BW := Lib.hid (BW.out.trans (b1.mono BW.out.size))
      replace AL := Lib.hid (AL.out.keep b1 AL.out.lt)
      unfold mv
      go_wp2_with fail
      have hHeld2 := hHeld.later b1 (by omega); clear b1 hHeld
      refine hK.out _ _ hHeld2 (fun hHeld => ?_)
      clear hK K hHeld2
      refine wpAnyH_take (i := 5) (v := .tuple #[.agg #[.int .i64 W, .int .i64 N, .int .i64 D], .bool true]) rfl (by kernel_rfl) (by kernel_rfl) (by kernel_rfl) (fun _ _ _ h => h) (Or.inl ⟨by first | kernel_rfl | rfl, fun w hSw => by go_simp⟩) hHeld ?_
      refine wpAnyH_take (i := 6) (v := .agg #[.int .i64 W, .int .i64 N, .int .i64 D]) rfl (by kernel_rfl) (by kernel_rfl) (by kernel_rfl) (fun _ _ _ h => h) (Or.inl ⟨by first | kernel_rfl | rfl, fun w hSw => by go_simp⟩) hHeld ?_
      refine wpAnyH_take (i := 7) (v := .bool true) rfl (by kernel_rfl) (by kernel_rfl) (by kernel_rfl) (fun _ _ _ h => h) (Or.inl ⟨by first | kernel_rfl | rfl, fun w hSw => by go_simp⟩) hHeld ?_
      try dsimp only [List.getElem_toArray, List.getElem_cons_zero, List.getElem_cons_succ]
      try simp only [Act.put, List.setIfInBounds_toArray, List.set_cons_zero, List.set_cons_succ]
      try dsimp only [List.getElem_toArray, List.getElem_cons_zero, List.getElem_cons_succ]
      try simp only [Act.put, List.setIfInBounds_toArray, List.set_cons_zero, List.set_cons_succ]
      refine wpAnyH_ready (rs := [9]) (by kernel_rfl) (by simp) (AllReadyH.cons rfl (fun K hK => ?_) AllReadyH.nil)
      refine permOf.step_store_row rfl 67 _ _ rfl (v0.heap.size) #[.int .i64 W, .int .i64 N, .int .i64 D] rfl rfl 67 #[.int .i64 0, .int .i64 0, .int .i64 0] AL.out (sizeM _ _ _) rfl (by simp [Value.oneCell']) ?_
      refine hK.out _ _ (hHeld.other (by omega) (by simp; omega) _) (fun hHeld2 => ?_)
      clear hK K hHeld
      have hHeld := hHeld2; clear hHeld2
      refine wpAnyH_take (i := 10) (v := .bool true) rfl (by kernel_rfl) (by kernel_rfl) (by kernel_rfl) (fun _ _ _ h => h) (Or.inl ⟨by first | kernel_rfl | rfl, fun w hSw => by go_simp⟩) hHeld ?_
      refine wpAnyH_done (by kernel_rfl) ?_ _
      clear hHeld
      try dsimp only [List.getElem_toArray, List.getElem_cons_zero, List.getElem_cons_succ]
      try simp only [Act.put, List.setIfInBounds_toArray, List.set_cons_zero, List.set_cons_succ]
      go_wp2_with fail
      go_meet
      exact ⟨_, rfl, rfl, rfl, by omega, Lib.hid AL.out.row, Lib.hid (below_setRow BW.out (by omega) _)⟩
  case rest =>
    obtain ⟨gb, rfl, rfl, rfl, hgb, A5, B5⟩ := hcut
    have s5 := B5.out.size
    replace A4 := Lib.hid (A4.out.keep B5.out (by omega))
    replace B1 := Lib.hid (B1.out.trans (B5.out.mono (by omega)))
    clear A2 A3 B5 M1 M2 PL OK1 OK2
    go_wp2_with (first | (refine wpList_load_row rfl 67 _ rfl gb rfl 67 #[.int .i64 W, .int .i64 N, .int .i64 D] (0, 0) _ A5.out Try.underlying67 rfl (sizeM _ _ _) ?_) | fail)
    refine (RT.out _).mono ?_
    rintro e w6 ⟨rfl, b1⟩
    have s6 := b1.size
    replace A4 := Lib.hid (A4.out.keep b1 A4.out.lt)
    replace B1 := Lib.hid (B1.out.trans (b1.mono B1.out.size)); clear b1
    unfold rv
    go_wp2_with (first | (refine wpList_store_row rfl 24 _ _ rfl (w.heap.size + 2) #[.int .i64 f, .int .i64 h] rfl rfl 24 #[.int .i64 0, .int .i64 0] A4.out (sizeR _ _) rfl (by simp [Value.oneCell']) ?_) | fail)
    exact bodyPost_ret (v := .agg #[.int .i64 f, .int .i64 h]) (results_cell_row rfl _ _ (w.heap.size + 2) 24 #[.int .i64 f, .int .i64 h] (0, 0) _ rfl A4.out.row Try.underlying24 rfl (sizeR _ _)) rfl ⟨rfl, below_setRow B1.out (by omega) _⟩
theorem rsum_impl (n1 d1 n2 d2 : Int) (w : World) (o1 : okR n1 d1 = true) (o2 : okR n2 d2 = true) (hn : (n1.natAbs * d2.natAbs + n2.natAbs * d1.natAbs : Nat) ≤ 1000000000000) (hd : (d1.natAbs * d2.natAbs : Nat) ≤ 1000000000000) :
    Calls Try.prog 10 #[.agg #[.int .i64 n1, .int .i64 d1], .agg #[.int .i64 n2, .int .i64 d2]] w fun e w' => e = .returned (rv (rsF n1 d1 n2 d2)) ∧ Below w.heap.size w w' := by
  have f1 := (okR_facts o1).1; have f2 := (okR_facts o2).1
  obtain ⟨a, rfl⟩ : ∃ e : Nat, d1 = (e : Int) := ⟨d1.toNat, by omega⟩
  obtain ⟨b, rfl⟩ : ∃ e : Nat, d2 = (e : Int) := ⟨d2.toNat, by omega⟩
  rw [Int.natAbs_natCast, Int.natAbs_natCast] at hn hd
  exact rsum_impl0 n1 n2 a b w o1 o2 hn hd
end Go.Proofs.Ytngglhbcpeigcaa.rat
