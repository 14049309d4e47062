import Derived.Test.YtngglhbcpeigcaaY20
import Derived.Test.YtngglhbcpeigcaaY01
import Derived.Outline
/-
  StratumPart of the program, for lists of small numbers.
-/
namespace Go.Proofs.Ytngglhbcpeigcaa.rat
open Go.ChangeShapes Go.WideShapes Go.ChangeAt Go.RowKit
open Go.Proofs.Ytngglhbcpeigcaa.mem Go.Proofs.Ytngglhbcpeigcaa.ints Go.Proofs.Ytngglhbcpeigcaa.arr Go.Proofs.Ytngglhbcpeigcaa.pm Go.Proofs.Ytngglhbcpeigcaa.permOk Go.Proofs.Ytngglhbcpeigcaa.sf Go.Proofs.Ytngglhbcpeigcaa.gl Go.Proofs.Ytngglhbcpeigcaa.cy
set_option linter.unusedVariables false
set_option maxRecDepth 100000
set_option linter.unusedSimpArgs false

/-- A fraction divided by a number. -/
def ovF (n d : Int) (c : Nat) : Int × Int := ofF (n.tdiv (Nat.gcd c n.natAbs : Nat)) (d * ((c / Nat.gcd c n.natAbs : Nat) : Int))
set_option maxHeartbeats 4000000 in
theorem over_impl (n d : Int) (c : Nat) (w : World) (hn : -1000000000000 ≤ n ∧ n ≤ 1000000000000) (hd : 0 ≤ d ∧ d ≤ 1000000000000) (h1 : 1 ≤ c) (h2 : c ≤ 1000) :
    Calls Try.prog 37 #[.agg #[.int .i64 n, .int .i64 d], .int .i64 c] w fun e w' => e = .returned (rv (ovF n d c)) ∧ Below w.heap.size w w' := by
  obtain ⟨a, ha⟩ : ∃ a : Nat, n.natAbs = a := ⟨_, rfl⟩
  have hneg : IntKind.i64.wrap (-n) = -n := IntWalk.i64_in _ (by omega)
  have hmx : (if -n > n then -n else n) = (a : Int) := by split <;> omega
  obtain ⟨g, hgg⟩ : ∃ g, g = Nat.gcd c a := ⟨_, rfl⟩
  have hgp : 0 < g := by rw [hgg]; exact Nat.gcd_pos_of_pos_left _ (by omega)
  have f1 := tdiv_fit (n := n) hgp
  obtain ⟨q, hq⟩ : ∃ q, c / g = q := ⟨_, rfl⟩
  have ql : q ≤ c := by rw [← hq]; exact Nat.div_le_self _ _
  have tq : (c : Int).tdiv (g : Int) = (q : Int) := by rw [← hq]; rfl
  obtain ⟨x, hx⟩ : ∃ x, n.tdiv (g : Int) = x := ⟨_, rfl⟩
  obtain ⟨y, hy⟩ : ∃ y, d * (q : Int) = y := ⟨_, rfl⟩
  rw [hx] at f1
  have yl : 0 ≤ y ∧ y ≤ 1000000000000000 := by
    obtain ⟨e, rfl⟩ : ∃ e : Nat, d = (e : Int) := ⟨d.toNat, by omega⟩
    have := Nat.mul_le_mul (show e ≤ 1000000000000 by omega) (show q ≤ 1000 by omega)
    rw [← hy, ← Int.natCast_mul]
    omega
  have HF : Hid (ovF n d c = ofF x y) := Lib.hid (by unfold ovF; rw [ha, ← hgg, hx, hq, hy])
  have wx : IntKind.i64.wrap x = x := IntWalk.i64_in _ (by omega)
  have wq : IntKind.i64.wrap (q : Int) = (q : Int) := IntWalk.i64_in _ (by omega)
  have wy : wrap64 y = y := IntWalk.wrap64_in _ (by omega)
  have wy2 : IntKind.i64.wrap y = y := IntWalk.i64_in _ (by omega)
  have hg0 : ¬ ((g : Int) = 0) := by omega
  have al : a ≤ 4611686018427387904 ∧ c ≤ 4611686018427387904 := by omega
  have xl : -9223372036854775808 ≤ x ∧ x ≤ 9223372036854775807 := by omega
  have GG := Lib.hid hgg; have HX := Lib.hid hx; have HY := Lib.hid hy; have TQ := Lib.hid tq
  clear hgg hx hy tq hq f1 ha hn hd h1 h2
  go_enter Try.func37, Try.ntmps37
  have C2 : Hid (∀ (x : Obj), Arr ((w.alloc (.cells #[.int .i64 n, .int .i64 d] 24)).alloc x) w.heap.size [.int .i64 n, .int .i64 d] 24) := Lib.hid (fun x => (Arr.new w _ _ rfl).alloc _)
  have cc0 := (C2.out (.cells #[.int .i64 0, .int .i64 0] 24)).cell (k := 0) rfl
  go_wp2_with fail
  clear cc0
  generalize hw1 : (w.alloc (.cells #[.int .i64 n, .int .i64 d] 24)).alloc (.cells #[.int .i64 0, .int .i64 0] 24) = w1
  have A2 : Hid (Arr w1 w.heap.size [.int .i64 n, .int .i64 d] 24) := Lib.hid (by rw [← hw1]; exact C2.out _)
  have A4 : Hid (Arr w1 (w.heap.size + 1) [.int .i64 0, .int .i64 0] 24) := Lib.hid (by rw [← hw1]; exact Arr.new _ _ _ (by simp))
  have B1 : Hid (Below w.heap.size w w1) := Lib.hid (by rw [← hw1]; exact ((Below.refl _ _).alloc (Nat.le_refl _) _).alloc (by simp) _)
  have s1 : w.heap.size + 2 ≤ w1.heap.size := by rw [← hw1]; simp
  clear hw1 C2
  refine (gcdI c a g _ GG.out al.2 al.1).mono ?_
  rintro e w3 ⟨rfl, hdr⟩
  have b3 := drawn_below hdr; clear hdr
  have s3 := b3.size
  replace A2 := Lib.hid (A2.out.keep b3 A2.out.lt)
  replace A4 := Lib.hid (A4.out.keep b3 A4.out.lt)
  replace B1 := Lib.hid (B1.out.trans (b3.mono B1.out.size)); clear b3
  go_wp2_with fail
  refine wp_region_held_drew (S := Hld (w.heap.size + 1) w3.heap.size w3 [(w.heap.size, [.int .i64 n, .int .i64 d])]) (by kernel_rfl) ((Hld.start1 A2.out).lower (by omega)) (fun hHeld => ?_)
  have b1 : Below w3.heap.size w3 w3.drew := ⟨rfl, rfl, rfl, Nat.le_refl _, fun _ _ => rfl⟩
  generalize w3.drew = w4 at *
  have s4 := b1.size
  replace A4 := Lib.hid (A4.out.keep b1 A4.out.lt)
  replace B1 := Lib.hid (B1.out.trans (b1.mono B1.out.size)); clear b1
  refine wpAnyH_take (i := 0) (v := .pointer (some ⟨w.heap.size, 0, none⟩)) rfl (by kernel_rfl) (by kernel_rfl) (by kernel_rfl) (fun _ _ _ h => h) (Or.inl ⟨by first | kernel_rfl | rfl, fun w hSw => by go_simp⟩) hHeld ?_
  refine wpAnyH_take (i := 1) (v := .int .i64 n) rfl (by kernel_rfl) (by kernel_rfl) (by kernel_rfl) (fun _ _ _ h => h) (Or.inl ⟨by first | kernel_rfl | rfl, fun w hSw => by have h := Hc hSw 0 rfl; go_simp⟩) hHeld ?_
  refine wpAnyH_take (i := 2) (v := .int .i64 (g : Int)) rfl (by kernel_rfl) (by kernel_rfl) (by kernel_rfl) (fun _ _ _ h => h) (Or.inl ⟨by first | kernel_rfl | rfl, fun w hSw => by go_simp⟩) hHeld ?_
  refine wpAnyH_take (i := 4) (v := .pointer (some ⟨w.heap.size, 1, none⟩)) rfl (by kernel_rfl) (by kernel_rfl) (by kernel_rfl) (fun _ _ _ h => h) (Or.inl ⟨by first | kernel_rfl | rfl, fun w hSw => by go_simp⟩) hHeld ?_
  refine wpAnyH_take (i := 5) (v := .int .i64 d) rfl (by kernel_rfl) (by kernel_rfl) (by kernel_rfl) (fun _ _ _ h => h) (Or.inl ⟨by first | kernel_rfl | rfl, fun w hSw => by have h := Hc hSw 1 rfl; go_simp⟩) hHeld ?_
  refine wpAnyH_take (i := 6) (v := .int .i64 (c : Int)) rfl (by kernel_rfl) (by kernel_rfl) (by kernel_rfl) (fun _ _ _ h => h) (Or.inl ⟨by first | kernel_rfl | rfl, fun w hSw => by go_simp⟩) hHeld ?_
  refine wpAnyH_take (i := 7) (v := .int .i64 (g : Int)) rfl (by kernel_rfl) (by kernel_rfl) (by kernel_rfl) (fun _ _ _ h => h) (Or.inl ⟨by first | kernel_rfl | rfl, fun w hSw => by go_simp⟩) hHeld ?_
  refine wpAnyH_take (i := 3) (v := .int .i64 x) rfl (by kernel_rfl) (by kernel_rfl) (by kernel_rfl) (fun _ _ _ h => h) (Or.inl ⟨by first | kernel_rfl | rfl, fun w hSw => by (have e1 := HX.out; go_simp; try omega)⟩) hHeld ?_
  refine wpAnyH_take (i := 8) (v := .int .i64 (q : Int)) rfl (by kernel_rfl) (by kernel_rfl) (by kernel_rfl) (fun _ _ _ h => h) (Or.inl ⟨by first | kernel_rfl | rfl, fun w hSw => by (have e1 := TQ.out; go_simp; try omega)⟩) hHeld ?_
  refine wpAnyH_take (i := 9) (v := .int .i64 y) rfl (by kernel_rfl) (by kernel_rfl) (by kernel_rfl) (fun _ _ _ h => h) (Or.inl ⟨by first | kernel_rfl | rfl, fun w hSw => by (have e1 := HY.out; go_simp; try omega)⟩) hHeld ?_
  try dsimp only [List.getElem_toArray, List.getElem_cons_zero, List.getElem_cons_succ]
  try simp only [Act.put, List.setIfInBounds_toArray, List.set_cons_zero, List.set_cons_succ]
  refine wpAnyH_ready (rs := [10]) (by kernel_rfl) (by simp) (AllReadyH.cons rfl (fun K hK => ?_) AllReadyH.nil)
  go_simp
  refine (rof_impl x y _ xl.1 xl.2 (by omega) (by omega)).mono ?_
  rintro e w5 ⟨rfl, b1⟩
  have s5 := b1.size
  replace A4 := Lib.hid (A4.out.keep b1 A4.out.lt)
  replace B1 := Lib.hid (B1.out.trans (b1.mono B1.out.size))
  have hHeld2 := hHeld.later b1 (by omega); clear b1 hHeld
  rw [← HF.out]
  obtain ⟨⟨f, h⟩, hfh⟩ : ∃ q, q = ovF n d c := ⟨_, rfl⟩
  rw [← hfh]
  have HFH := Lib.hid hfh; clear hfh
  unfold rv
  go_wp2_with fail
  refine hK.out _ _ hHeld2 (fun hHeld => ?_)
  clear hK K hHeld2
  try dsimp only [List.getElem_toArray, List.getElem_cons_zero, List.getElem_cons_succ]
  try simp only [Act.put, List.setIfInBounds_toArray, List.set_cons_zero, List.set_cons_succ]
  refine wpAnyH_ready (rs := [11]) (by kernel_rfl) (by simp) (AllReadyH.cons rfl (fun K hK => ?_) AllReadyH.nil)
  refine permOf.step_store_row rfl 24 _ _ rfl (w.heap.size + 1) #[.int .i64 f, .int .i64 h] rfl rfl 24 #[.int .i64 0, .int .i64 0] A4.out (sizeR _ _) rfl (by simp [Value.oneCell']) ?_
  refine hK.out _ _ (hHeld.other (by omega) (by simp) _) (fun hHeld2 => ?_)
  clear hK K hHeld2
  refine wpAnyH_done (by kernel_rfl) ?_ _
  try dsimp only [List.getElem_toArray, List.getElem_cons_zero, List.getElem_cons_succ]
  try simp only [Act.put, List.setIfInBounds_toArray, List.set_cons_zero, List.set_cons_succ]
  go_wp2_with fail
  exact bodyPost_ret (v := .agg #[.int .i64 f, .int .i64 h]) (results_cell_row rfl _ _ (w.heap.size + 1) 24 #[.int .i64 f, .int .i64 h] (0, 0) _ rfl A4.out.row Try.underlying24 rfl (sizeR _ _)) rfl ⟨by rw [← HFH.out]; rfl, below_setRow B1.out (by omega) _⟩
/-- One summand more. -/
def stS (s : Int × Int) (d : Int) : Int × Int := rsF s.1 s.2 (ofF (d * (d + 2)) (d + 1)).1 (ofF (d * (d + 2)) (d + 1)).2
def stK (l : List Int) (k : Nat) : Int × Int := (l.take k).foldl stS (0, 1)
theorem stK_succ {l : List Int} {k : Nat} {x : Int} (h : l[k]? = some x) : stK l (k + 1) = stS (stK l k) x := by
  unfold stK; rw [List.take_add_one, h]; simp
def spF (l : List Int) : Int × Int := ovF (stK l l.length).1 (stK l l.length).2 12
def tS (l : List Int) : Nat := (l.map Int.toNat).sum
/-- A list of small numbers. -/
structure Sg (l : List Int) : Prop where
  all : ∀ d ∈ l, 1 ≤ d ∧ d ≤ 24
  sum : tS l ≤ 24
theorem tS_app (a b : List Int) : tS (a ++ b) = tS a + tS b := by simp [tS]
theorem tS_take (l : List Int) (k : Nat) : tS (l.take k) ≤ tS l := by
  have : tS l = tS (l.take k) + tS (l.drop k) := by rw [← tS_app, List.take_append_drop]
  omega
theorem tS_succ {l : List Int} {k : Nat} {x : Int} (h : l[k]? = some x) : tS (l.take (k + 1)) = tS (l.take k) + x.toNat := by
  rw [List.take_add_one, h, tS_app]; simp [tS]
theorem Sg.len {l : List Int} (h : Sg l) : l.length ≤ 24 := by
  have : ∀ l : List Int, (∀ d ∈ l, 1 ≤ d ∧ d ≤ 24) → l.length ≤ tS l := by
    intro l
    induction l with
    | nil => intro _; simp
    | cons a l ih =>
      intro h
      have h1 := h a (by simp)
      have h2 := ih fun d hd => h d (by simp [hd])
      simp only [tS, List.map_cons, List.sum_cons, List.length_cons] at h2 ⊢
      omega
  exact Nat.le_trans (this l h.all) h.sum
theorem sg_term {d : Int} (h : 1 ≤ d ∧ d ≤ 24) : Is (ofF (d * (d + 2)) (d + 1)) (d * (d + 2)) (d + 1) ∧ Sm (ofF (d * (d + 2)) (d + 1)) (2 * d.toNat * 2 ^ d.toNat) (2 ^ d.toNat) := by
  obtain ⟨e, rfl⟩ : ∃ e : Nat, d = (e : Int) := ⟨d.toNat, by omega⟩
  have he : e ≤ 24 := by omega
  have h1 : 1 ≤ e := by omega
  have q : e * (e + 2) ≤ 1000 := Nat.le_trans (Nat.mul_le_mul he (by omega : e + 2 ≤ 26)) (by omega)
  have ec : ((e : Int) * ((e : Int) + 2)) = ((e * (e + 2) : Nat) : Int) := by simp
  have b1 : (1 : Int) ≤ (e : Int) + 1 ∧ (e : Int) + 1 ≤ MP := ⟨by omega, by simp only [MP]; omega⟩
  have b2 : -MP ≤ (e : Int) * ((e : Int) + 2) ∧ (e : Int) * ((e : Int) + 2) ≤ MP := by rw [ec]; exact ⟨by simp only [MP]; omega, by simp only [MP]; omega⟩
  have p := @Nat.lt_two_pow_self e
  have p2 : 1 ≤ 2 ^ e := by omega
  refine ⟨Is.ofF b1 b2, (Sm.ofF b1 b2).mono ?_ ?_⟩
  · rw [ec, Int.natAbs_natCast, Int.toNat_natCast, Nat.mul_comm 2 e, Nat.mul_assoc]
    exact Nat.mul_le_mul_left _ (by omega)
  · rw [Int.toNat_natCast]; omega
theorem stK_ok {l : List Int} (h : Sg l) : ∀ k, k ≤ l.length → ∃ A B : Int, Is (stK l k) A B ∧ Sm (stK l k) (2 * tS (l.take k) * 2 ^ tS (l.take k)) (2 ^ tS (l.take k)) := by
  intro k
  induction k with
  | zero => intro _; exact ⟨0, 1, ⟨by show okR 0 1 = true; decide, rfl, by decide⟩, ⟨by simp [stK], by simp [stK, tS]⟩⟩
  | succ k ih =>
    intro hk
    obtain ⟨A, B, hI, hS⟩ := ih (by omega)
    have hx : l[k]? = some l[k] := List.getElem?_eq_getElem (by omega)
    have hd := h.all l[k] (List.getElem_mem _)
    obtain ⟨J, T⟩ := sg_term hd
    have hw := tS_take l (k + 1)
    have hs := h.sum
    rw [tS_succ hx] at hw
    rw [stK_succ hx, tS_succ hx]
    unfold stS
    generalize l[k].toNat = d at *
    generalize tS (l.take k) = S at *
    have p1 : 2 ^ S * 2 ^ d = 2 ^ (S + d) := (Nat.pow_add 2 S d).symm
    have p2 : 2 ^ (S + d) ≤ 2 ^ 24 := Nat.pow_le_pow_right (by omega) (by omega)
    have p3 : 2 * S * 2 ^ S * 2 ^ d + 2 * d * 2 ^ d * 2 ^ S = 2 * (S + d) * 2 ^ (S + d) := by
      rw [← p1]; generalize 2 ^ S = x; generalize 2 ^ d = y; grind
    have p4 : 2 * (S + d) * 2 ^ (S + d) ≤ 48 * 2 ^ 24 := Nat.mul_le_mul (by omega) p2
    obtain ⟨i, s⟩ := hI.sum J hS T (by omega) (by omega)
    exact ⟨_, _, i, s.mono (by omega) (by omega)⟩
theorem st_nx {l : List Int} (h : Sg l) {k : Nat} {x : Int} (hx : l[k]? = some x) {sn sd on od : Int} (e1 : stK l k = (sn, sd)) (e2 : ofF (x * (x + 2)) (x + 1) = (on, od)) : Nx sn sd on od := by
  have hk := (List.getElem?_eq_some_iff.1 hx).1
  obtain ⟨A, B, hI, hS⟩ := stK_ok h k (by omega)
  have hd := h.all x (List.mem_of_getElem? hx)
  obtain ⟨J, T⟩ := sg_term hd
  have hw := tS_take l (k + 1)
  have hs := h.sum
  rw [tS_succ hx] at hw
  have key : ∀ S d : Nat, S + d ≤ 24 → 2 * S * 2 ^ S * 2 ^ d + 2 * d * 2 ^ d * 2 ^ S ≤ 1000000000000 ∧ 2 ^ S * 2 ^ d ≤ 1000000000000 := by
    intro S d hsd
    have p1 : 2 ^ S * 2 ^ d = 2 ^ (S + d) := (Nat.pow_add 2 S d).symm
    have p2 : 2 ^ (S + d) ≤ 2 ^ 24 := Nat.pow_le_pow_right (by omega) hsd
    have p3 : 2 * S * 2 ^ S * 2 ^ d + 2 * d * 2 ^ d * 2 ^ S = 2 * (S + d) * 2 ^ (S + d) := by
      rw [← p1]; generalize 2 ^ S = x; generalize 2 ^ d = y; grind
    have p4 : 2 * (S + d) * 2 ^ (S + d) ≤ 48 * 2 ^ 24 := Nat.mul_le_mul (by omega) p2
    omega
  obtain ⟨k1, k2⟩ := key (tS (l.take k)) x.toNat (by omega)
  have l1 := Nat.mul_le_mul hS.num T.den
  have l2 := Nat.mul_le_mul T.num hS.den
  have l3 := Nat.mul_le_mul hS.den T.den
  rw [e1] at hI l1 l2 l3
  rw [e2] at J l1 l2 l3
  exact ⟨hI.ok, J.ok, by dsimp only at l1 l2; omega, by dsimp only at l3; omega⟩
theorem stK_fit {l : List Int} (h : Sg l) {k : Nat} (hk : k ≤ l.length) {sn sd : Int} (e : stK l k = (sn, sd)) : (-1000000000000 ≤ sn ∧ sn ≤ 1000000000000) ∧ (1 ≤ sd ∧ sd ≤ 1000000000000) := by
  obtain ⟨A, B, hI, hS⟩ := stK_ok h k hk
  have := okR_facts hI.ok
  rw [e] at this
  exact ⟨this.2.1, this.1⟩
set_option maxHeartbeats 8000000 in
theorem st_impl (A : Option Addr) (c : Nat) (l : List Int) (hi : Nat) (w : World) (hl : Rd w hi A l.length (V l)) (hg : Sg l) :
    Calls Try.prog 14 #[.slice A l.length c] w fun e w' => e = .returned (rv (spF l)) ∧ Below w.heap.size w w' := by
  have HX := Lib.hid hl; have HG := Lib.hid hg; have n24 := hg.len; have ht := hl.2.1; clear hl hg
  obtain ⟨N, hN⟩ : ∃ N, l.length = N := ⟨_, rfl⟩
  have HN := Lib.hid hN
  rw [hN] at HX n24 ⊢
  clear hN
  have e1 : decide ((24 : Int) < (N : Int)) = false := by simp; omega
  have e2 : decide (24 < N) = false := by simp; omega
  go_enter Try.func14, Try.ntmps14
  go_wp2_with (first | (refine wpList_build rfl 24 _ rfl [(1, .int .i64 1)] rfl #[.int .i64 0, .int .i64 1] builtR1 ?_) | fail)
  generalize hw3 : (w.alloc (.cells #[.int .i64 0, .int .i64 0] 24)).alloc (.cells #[.int .i64 0, .int .i64 1] 24) = w3
  have A2 : Hid (Arr w3 w.heap.size [.int .i64 0, .int .i64 0] 24) := Lib.hid (by rw [← hw3]; exact (Arr.new _ _ _ (by simp)).alloc _)
  have A5 : Hid (Arr w3 (w.heap.size + 1) [.int .i64 0, .int .i64 1] 24) := Lib.hid (by rw [← hw3]; exact Arr.new _ _ _ (by simp))
  have B1 : Hid (Below w.heap.size w w3) := Lib.hid (by rw [← hw3]; exact ((Below.refl _ _).alloc (Nat.le_refl _) _).alloc (by simp) _)
  have s3 : w.heap.size + 2 ≤ w3.heap.size := by rw [← hw3]; simp
  clear hw3
  replace HX := Lib.hid (HX.out.keep (B1.out.mono ht) (Nat.le_refl _))
  generalize hsb : w.heap.size + 1 = sb at *
  have s1' : w.heap.size + 1 ≤ sb := by omega
  have s3' : sb + 1 ≤ w3.heap.size := by omega
  have hsb' : hi ≤ sb := by omega
  clear s3 hsb e1 e2
  have K0 : stK l 0 = (0, 1) := rfl
  have hN24 : N ≤ 24 := n24
  go_loopw [13] (fun i wr => ∃ k : Nat, k ≤ N ∧ i = .int .i64 k ∧ Arr wr sb [.int .i64 (stK l k).1, .int .i64 (stK l k).2] 24 ∧ Below sb w3 wr) (fun i _ => N - (intOf i).toNat)
  case atStart => exact ⟨0, Nat.zero_le _, rfl, A5.out, Below.refl _ _⟩
  case round =>
    clear A5
    obtain ⟨k, hk, rfl, ha, ho⟩ := hrel
    have A5 := Lib.hid ha; have OL := Lib.hid ho; clear ha ho
    have swr := OL.out.size
    by_cases hlt : k < N
    · obtain ⟨g, off, v, rfl, hg, hsk, c0⟩ := (HX.out.keep OL.out hsb').at_ hlt
      obtain ⟨x, hx, rfl⟩ : ∃ x, l[k]? = some x ∧ v = .int .i64 x := by
        have hk2 : k < l.length := by rw [HN.out]; exact hlt
        refine ⟨l[k], List.getElem?_eq_getElem hk2, ?_⟩
        rw [show (V l)[k]? = some (.int .i64 l[k]) by simp [V, List.getElem?_eq_getElem hk2]] at hsk
        exact (Option.some.inj hsk).symm
      have hx24 := HG.out.all x (List.mem_of_getElem? hx)
      have NX := Lib.hid (stK_succ hx)
      have NS := Lib.hid (fun (sn sd on od : Int) (h1 : stK l k = (sn, sd)) (h2 : ofF (x * (x + 2)) (x + 1) = (on, od)) => st_nx HG.out hx h1 h2)
      have FT := Lib.hid (fun (sn sd : Int) (h1 : stK l k = (sn, sd)) => stK_fit HG.out (by rw [HN.out]; omega) h1)
      clear hsk
      obtain ⟨⟨sn, sd⟩, hs⟩ : ∃ q, q = stK l k := ⟨_, rfl⟩
      have ft := FT.out sn sd hs.symm
      rw [← hs] at A5 NX NS
      clear hs FT
      obtain ⟨⟨on, od⟩, ho⟩ : ∃ q, q = ofF (x * (x + 2)) (x + 1) := ⟨_, rfl⟩
      have fo := ofF_fit (x * (x + 2)) (x + 1)
      have NX2 : Hid (stK l (k + 1) = rsF sn sd on od) := Lib.hid (by rw [NX.out, stS, ← ho])
      have NS2 : Hid (Nx sn sd on od) := Lib.hid (NS.out sn sd on od rfl ho.symm)
      rw [← ho] at fo
      obtain ⟨m, hm⟩ : ∃ m, x * (x + 2) = m := ⟨_, rfl⟩
      have ml : 0 ≤ m ∧ m ≤ 1000 := by
        obtain ⟨e, rfl⟩ : ∃ e : Nat, x = (e : Int) := ⟨x.toNat, by omega⟩
        have := Nat.mul_le_mul (show e ≤ 24 by omega) (show e + 2 ≤ 26 by omega)
        have ec : ((e : Int) * ((e : Int) + 2)) = ((e * (e + 2) : Nat) : Int) := by simp
        rw [ec] at hm
        omega
      rw [hm] at ho
      have HO := Lib.hid ho; have HM := Lib.hid hm
      have w1_ : IntKind.i64.wrap (x + 2) = x + 2 := IntWalk.i64_in _ (by omega)
      have w2_ : IntKind.i64.wrap (x + 1) = x + 1 := IntWalk.i64_in _ (by omega)
      have w3_ : IntKind.i64.wrap m = m := IntWalk.i64_in _ (by omega)
      have w4_ : wrap64 m = m := IntWalk.wrap64_in _ (by omega)
      have d1 : decide (x < 1) = false := by simp; omega
      have d2 : decide (24 < x) = false := by simp; omega
      clear ho NX NS hm hx
      obtain ⟨f1, f2⟩ := ft
      obtain ⟨f3, f4⟩ := fo
      dsimp only at f1 f2 f3 f4 A5
      go_wp2_with fail
      clear c0
      refine wp_region_held_drew (S := Hld sb wr.heap.size wr []) (by kernel_rfl) ⟨fun p hp => by simp at hp, (show Below sb wr wr.drew from ⟨rfl, rfl, rfl, Nat.le_refl _, fun _ _ => rfl⟩), Nat.le_refl _⟩ (fun hHeld => ?_)
      have b1 : Below wr.heap.size wr wr.drew := ⟨rfl, rfl, rfl, Nat.le_refl _, fun _ _ => rfl⟩
      generalize wr.drew = wd at *
      have sd_ := b1.size
      have h5 := A5.out.lt
      replace A5 := Lib.hid (A5.out.keep b1 A5.out.lt)
      have BA := Lib.hid (OL.out.trans (b1.mono (by omega)))
      clear b1
      refine wpAnyH_take (i := 1) (v := .int .i64 x) rfl (by kernel_rfl) (by kernel_rfl) (by kernel_rfl) (fun _ _ _ h => h) (Or.inl ⟨by first | kernel_rfl | rfl, fun w hSw => by go_simp⟩) hHeld ?_
      refine wpAnyH_take (i := 2) (v := .int .i64 x) rfl (by kernel_rfl) (by kernel_rfl) (by kernel_rfl) (fun _ _ _ h => h) (Or.inl ⟨by first | kernel_rfl | rfl, fun w hSw => by go_simp⟩) hHeld ?_
      refine wpAnyH_take (i := 3) (v := .int .i64 (x + 2)) rfl (by kernel_rfl) (by kernel_rfl) (by kernel_rfl) (fun _ _ _ h => h) (Or.inl ⟨by first | kernel_rfl | rfl, fun w hSw => by go_simp⟩) hHeld ?_
      refine wpAnyH_take (i := 4) (v := .int .i64 m) rfl (by kernel_rfl) (by kernel_rfl) (by kernel_rfl) (fun _ _ _ h => h) (Or.inl ⟨by first | kernel_rfl | rfl, fun w hSw => by (have e1 := HM.out; go_simp; try omega)⟩) hHeld ?_
      refine wpAnyH_take (i := 5) (v := .int .i64 x) rfl (by kernel_rfl) (by kernel_rfl) (by kernel_rfl) (fun _ _ _ h => h) (Or.inl ⟨by first | kernel_rfl | rfl, fun w hSw => by go_simp⟩) hHeld ?_
      refine wpAnyH_take (i := 6) (v := .int .i64 (x + 1)) rfl (by kernel_rfl) (by kernel_rfl) (by kernel_rfl) (fun _ _ _ h => h) (Or.inl ⟨by first | kernel_rfl | rfl, fun w hSw => by go_simp⟩) hHeld ?_
      try dsimp only [List.getElem_toArray, List.getElem_cons_zero, List.getElem_cons_succ]
      try simp only [Act.put, List.setIfInBounds_toArray, List.set_cons_zero, List.set_cons_succ]
      refine wpAnyH_ready (rs := [0, 7]) (by kernel_rfl) (by simp) (AllReadyH.cons rfl (fun K hK => ?_) (AllReadyH.cons rfl (fun K hK => ?_) AllReadyH.nil))
      · refine permOf.step_load_row rfl 24 _ rfl sb rfl 24 #[.int .i64 sn, .int .i64 sd] (0, 0) _ A5.out Try.underlying24 rfl (sizeR _ _) ?_
        refine hK.out _ _ hHeld (fun hHeld2 => ?_)
        clear hK K hHeld
        have hHeld := hHeld2; clear hHeld2
        refine wpAnyH_ready (rs := [7]) (by kernel_rfl) (by simp) (AllReadyH.cons rfl (fun K hK => ?_) AllReadyH.nil)
        go_simp
        refine (rof_impl m (x + 1) _ (by omega) (by omega) (by omega) (by omega)).mono ?_
        rintro e we ⟨rfl, b1⟩
        have se := b1.size
        rw [← HO.out]
        replace A5 := Lib.hid (A5.out.keep b1 A5.out.lt)
        replace BA := Lib.hid (BA.out.trans (b1.mono (by omega)))
        have hHeld2 := hHeld.later b1 (by omega); clear b1 hHeld
        unfold rv
        go_wp2_with fail
        refine hK.out _ _ hHeld2 (fun hHeld => ?_)
        clear hK K hHeld2
        refine wpAnyH_ready (rs := [8]) (by kernel_rfl) (by simp) (AllReadyH.cons rfl (fun K hK => ?_) AllReadyH.nil)
        go_simp
        refine (rsum_impl sn sd on od _ NS2.out.1 NS2.out.2.1 NS2.out.2.2.1 NS2.out.2.2.2).mono ?_
        rintro e wf ⟨rfl, b1⟩
        have sf_ := b1.size
        rw [← NX2.out]
        obtain ⟨⟨tn, td⟩, hs⟩ : ∃ q, q = stK l (k + 1) := ⟨_, rfl⟩
        rw [← hs]
        have HS := Lib.hid hs; clear hs
        replace A5 := Lib.hid (A5.out.keep b1 A5.out.lt)
        replace BA := Lib.hid (BA.out.trans (b1.mono (by omega)))
        have hHeld2 := hHeld.later b1 (by omega); clear b1 hHeld
        unfold rv
        go_wp2_with fail
        refine hK.out _ _ hHeld2 (fun hHeld => ?_)
        clear hK K hHeld2
        try dsimp only [List.getElem_toArray, List.getElem_cons_zero, List.getElem_cons_succ]
        try simp only [Act.put, List.setIfInBounds_toArray, List.set_cons_zero, List.set_cons_succ]
        refine wpAnyH_ready (rs := [9]) (by kernel_rfl) (by simp) (AllReadyH.cons rfl (fun K hK => ?_) AllReadyH.nil)
        refine permOf.step_store_row rfl 24 _ _ rfl sb #[.int .i64 tn, .int .i64 td] rfl rfl 24 #[.int .i64 sn, .int .i64 sd] A5.out (sizeR _ _) rfl (by simp [Value.oneCell']) ?_
        refine hK.out _ _ (hHeld.other (by omega) (by simp) _) (fun hHeld2 => ?_)
        clear hK K hHeld2
        refine wpAnyH_done (by kernel_rfl) ?_ _
        try dsimp only [List.getElem_toArray, List.getElem_cons_zero, List.getElem_cons_succ]
        try simp only [Act.put, List.setIfInBounds_toArray, List.set_cons_zero, List.set_cons_succ]
        have A6 : Hid (Arr (wf.setRow sb #[.int .i64 tn, .int .i64 td]) sb [.int .i64 (stK l (k + 1)).1, .int .i64 (stK l (k + 1)).2] 24) := Lib.hid (by rw [← HS.out]; exact A5.out.row)
        have B6 : Hid (Below sb w3 (wf.setRow sb #[.int .i64 tn, .int .i64 td])) := Lib.hid (below_setRow BA.out (Nat.le_refl _) _)
        generalize wf.setRow sb #[.int .i64 tn, .int .i64 td] = wg at *
        clear A5 BA OL HO NX2 NS2 HS hHeld
        go_wp2_with fail
        go_roundw
        case rel => exact ⟨k + 1, by omega, by go_num, A6.out, B6.out⟩
        case measure => simp [intOf]; omega
      · go_simp
        refine (rof_impl m (x + 1) _ (by omega) (by omega) (by omega) (by omega)).mono ?_
        rintro e we ⟨rfl, b1⟩
        have se := b1.size
        rw [← HO.out]
        replace A5 := Lib.hid (A5.out.keep b1 A5.out.lt)
        replace BA := Lib.hid (BA.out.trans (b1.mono (by omega)))
        have hHeld2 := hHeld.later b1 (by omega); clear b1 hHeld
        unfold rv
        go_wp2_with fail
        refine hK.out _ _ hHeld2 (fun hHeld => ?_)
        clear hK K hHeld2
        refine wpAnyH_ready (rs := [0]) (by kernel_rfl) (by simp) (AllReadyH.cons rfl (fun K hK => ?_) AllReadyH.nil)
        refine permOf.step_load_row rfl 24 _ rfl sb rfl 24 #[.int .i64 sn, .int .i64 sd] (0, 0) _ A5.out Try.underlying24 rfl (sizeR _ _) ?_
        refine hK.out _ _ hHeld (fun hHeld2 => ?_)
        clear hK K hHeld
        have hHeld := hHeld2; clear hHeld2
        refine wpAnyH_ready (rs := [8]) (by kernel_rfl) (by simp) (AllReadyH.cons rfl (fun K hK => ?_) AllReadyH.nil)
        go_simp
        refine (rsum_impl sn sd on od _ NS2.out.1 NS2.out.2.1 NS2.out.2.2.1 NS2.out.2.2.2).mono ?_
        rintro e wf ⟨rfl, b1⟩
        have sf_ := b1.size
        rw [← NX2.out]
        obtain ⟨⟨tn, td⟩, hs⟩ : ∃ q, q = stK l (k + 1) := ⟨_, rfl⟩
        rw [← hs]
        have HS := Lib.hid hs; clear hs
        replace A5 := Lib.hid (A5.out.keep b1 A5.out.lt)
        replace BA := Lib.hid (BA.out.trans (b1.mono (by omega)))
        have hHeld2 := hHeld.later b1 (by omega); clear b1 hHeld
        unfold rv
        go_wp2_with fail
        refine hK.out _ _ hHeld2 (fun hHeld => ?_)
        clear hK K hHeld2
        try dsimp only [List.getElem_toArray, List.getElem_cons_zero, List.getElem_cons_succ]
        try simp only [Act.put, List.setIfInBounds_toArray, List.set_cons_zero, List.set_cons_succ]
        refine wpAnyH_ready (rs := [9]) (by kernel_rfl) (by simp) (AllReadyH.cons rfl (fun K hK => ?_) AllReadyH.nil)
        refine permOf.step_store_row rfl 24 _ _ rfl sb #[.int .i64 tn, .int .i64 td] rfl rfl 24 #[.int .i64 sn, .int .i64 sd] A5.out (sizeR _ _) rfl (by simp [Value.oneCell']) ?_
        refine hK.out _ _ (hHeld.other (by omega) (by simp) _) (fun hHeld2 => ?_)
        clear hK K hHeld2
        refine wpAnyH_done (by kernel_rfl) ?_ _
        try dsimp only [List.getElem_toArray, List.getElem_cons_zero, List.getElem_cons_succ]
        try simp only [Act.put, List.setIfInBounds_toArray, List.set_cons_zero, List.set_cons_succ]
        have A6 : Hid (Arr (wf.setRow sb #[.int .i64 tn, .int .i64 td]) sb [.int .i64 (stK l (k + 1)).1, .int .i64 (stK l (k + 1)).2] 24) := Lib.hid (by rw [← HS.out]; exact A5.out.row)
        have B6 : Hid (Below sb w3 (wf.setRow sb #[.int .i64 tn, .int .i64 td])) := Lib.hid (below_setRow BA.out (Nat.le_refl _) _)
        generalize wf.setRow sb #[.int .i64 tn, .int .i64 td] = wg at *
        clear A5 BA OL HO NX2 NS2 HS hHeld
        go_wp2_with fail
        go_roundw
        case rel => exact ⟨k + 1, by omega, by go_num, A6.out, B6.out⟩
        case measure => simp [intOf]; omega
    · obtain rfl : k = N := by omega
      obtain ⟨⟨sn, sd⟩, hs⟩ : ∃ q, q = stK l k := ⟨_, rfl⟩
      have ft := stK_fit HG.out (k := k) (by rw [HN.out]; exact Nat.le_refl _) hs.symm
      have FIN : Hid (spF l = ovF sn sd 12) := Lib.hid (by unfold spF; rw [HN.out, ← hs])
      rw [← hs] at A5
      have A2' : Hid (Arr wr w.heap.size [.int .i64 0, .int .i64 0] 24) := Lib.hid (A2.out.keep OL.out (by omega))
      have BB : Hid (Below w.heap.size w wr) := Lib.hid (B1.out.trans (OL.out.mono (by omega)))
      clear hs
      go_wp2_with (first | (refine wpList_load_row rfl 24 _ rfl sb rfl 24 #[.int .i64 sn, .int .i64 sd] (0, 0) _ A5.out Try.underlying24 rfl (sizeR _ _) ?_) | fail)
      refine (over_impl sn sd 12 _ ft.1 (by omega) (by omega) (by omega)).mono ?_
      rintro e w6 ⟨rfl, b1⟩
      have s6 := b1.size
      replace A2' := Lib.hid (A2'.out.keep b1 A2'.out.lt)
      replace BB := Lib.hid (BB.out.trans (b1.mono BB.out.size)); clear b1
      rw [← FIN.out]
      obtain ⟨⟨f, h⟩, hfh⟩ : ∃ q, q = spF l := ⟨_, rfl⟩
      rw [← hfh]
      have HFH := Lib.hid hfh; clear hfh FIN
      unfold rv
      go_wp2_with (first | (refine wpList_store_row rfl 24 _ _ rfl w.heap.size #[.int .i64 f, .int .i64 h] rfl rfl 24 #[.int .i64 0, .int .i64 0] A2'.out (sizeR _ _) rfl (by simp [Value.oneCell']) ?_) | fail)
      exact bodyPost_ret (v := .agg #[.int .i64 f, .int .i64 h]) (results_cell_row rfl _ _ w.heap.size 24 #[.int .i64 f, .int .i64 h] (0, 0) _ rfl A2'.out.row Try.underlying24 rfl (sizeR _ _)) rfl ⟨by rw [← HFH.out]; rfl, below_setRow BB.out (Nat.le_refl _) _⟩
theorem of29 : ofF 2 9 = (2, 9) := by decide
theorem st_two (g : Nat) (w : World) (h : Arr w g [.int .i64 2] 3) :
    Calls Try.prog 14 #[.slice (some ⟨g, 0, none⟩) 1 1] w fun e w' => e = .returned (rv (2, 9)) ∧ Below w.heap.size w w' := by
  have hs : spF [2] = (2, 9) := by decide
  rw [← hs]
  refine st_impl (some ⟨g, 0, none⟩) 1 [2] w.heap.size w ⟨rfl, Nat.le_refl _, fun _ => ⟨g, 0, rfl, h.lt, fun j hj => ?_⟩⟩ ⟨by intro d hd; simp at hd; subst hd; omega, by decide⟩
  obtain rfl : j = 0 := by simp at hj; omega
  simpa [V] using h.cell (k := 0) rfl
end Go.Proofs.Ytngglhbcpeigcaa.rat

/-
  The cursor that the laws draw from: contracts of l01New, l01Byte, l01Below and their kin, as far as ranges go.
-/
namespace Go.Proofs.Ytngglhbcpeigcaa.cur
open Go.ChangeShapes Go.WideShapes Go.ChangeAt Go.RowKit
open Go.Proofs.Ytngglhbcpeigcaa.mem
set_option linter.unusedVariables false
set_option maxRecDepth 100000

def U (l : List Int) : List Value := l.map (Value.int .u8)
def Bytes (l : List Int) : Prop := ∀ z ∈ l, 0 ≤ z ∧ z ≤ 255
theorem U_at {l : List Int} {k : Nat} {u : Value} (h : (U l)[k]? = some u) (hb : Bytes l) : ∃ z, u = .int .u8 z ∧ 0 ≤ z ∧ z ≤ 255 := by
  simp only [U, List.getElem?_map, Option.map_eq_some_iff] at h
  obtain ⟨s, h1, h2⟩ := h
  have := hb s (List.mem_of_getElem? h1)
  exact ⟨s, h2.symm, this.1, this.2⟩

/-- The code: a slice of bytes below block 'hi'. -/
structure Code (w : World) (hi : Nat) (A : Option Addr) (n : Nat) (l : List Int) : Prop where
  rd : Rd w hi A n (U l)
  byt : Bytes l
  small : n ≤ 1048576
/-- Block g is a cursor over the code. -/
structure Cur (w : World) (g : Nat) (A : Option Addr) (n c : Nat) (l : List Int) : Prop where
  blk : ∃ i h : Int, w.heap[g]? = some (.cells #[.slice A n c, .int .i64 i, .int .i64 h] 80 (0, 0)) ∧ 0 ≤ i ∧ i ≤ n ∧ -9223372036854775808 ≤ h ∧ h ≤ 9223372036854775807
  code : Code w g A n l

theorem Code.out {w w' : World} {hi lo' hi' : Nat} {A : Option Addr} {n : Nat} {l : List Int} (h : Code w hi A n l) (ho : Out lo' hi' w w') (hd : hi ≤ lo' ∨ hi' ≤ 0) : Code w' hi A n l :=
  ⟨h.rd.out ho hd, h.byt, h.small⟩
theorem Code.keep {w w' : World} {hi B : Nat} {A : Option Addr} {n : Nat} {l : List Int} (h : Code w hi A n l) (hb : Below B w w') (hB : hi ≤ B) : Code w' hi A n l :=
  ⟨h.rd.keep hb hB, h.byt, h.small⟩
theorem Code.wider {w : World} {hi hi' : Nat} {A : Option Addr} {n : Nat} {l : List Int} (h : Code w hi A n l) (h1 : hi ≤ hi') (h2 : hi' ≤ w.heap.size) : Code w hi' A n l :=
  ⟨⟨h.rd.1, h2, fun hn => by
    obtain ⟨g, off, e, hlt, hc⟩ := h.rd.2.2 hn
    exact ⟨g, off, e, by omega, hc⟩⟩, h.byt, h.small⟩
theorem and255 (n : Int) : 0 ≤ bits .and .i64 n 255 ∧ bits .and .i64 n 255 ≤ 255 := by
  have e : bits .and .i64 n 255 = n % 256 := by
    have h127 : (BitVec.ofInt 64 255).toNat = 2 ^ 8 - 1 := by decide
    have key : (BitVec.ofInt 64 n &&& BitVec.ofInt 64 255).toNat = (n % ((2 ^ 64 : Nat) : Int)).toNat % 2 ^ 8 := by
      rw [BitVec.toNat_and, BitVec.toNat_ofInt, h127, Nat.and_two_pow_sub_one_eq_mod]
    show IntKind.i64.wrap ((BitVec.ofInt 64 n &&& BitVec.ofInt 64 255).toNat : Nat) = n % 256
    rw [key, IntKind.wrap_i64]
    omega
  rw [e]; omega

set_option maxHeartbeats 400000 in
theorem byte_any (w : World) (g : Nat) (A : Option Addr) (n c : Nat) (l : List Int) (hc : Cur w g A n c l) :
    Calls Try.prog 45 #[.pointer (some ⟨g, 0, none⟩)] w fun e w' => ∃ x : Int, 0 ≤ x ∧ x ≤ 255 ∧ e = .returned (.int .i64 x) ∧ Cur w' g A n c l ∧ Out g (g + 1) w w' := by
  obtain ⟨⟨i', h, hb, i0', i1', h0, h1⟩, hcode⟩ := hc
  obtain ⟨i, rfl⟩ := Int.eq_ofNat_of_zero_le i0'
  have i1 : i ≤ n := by omega
  clear i0' i1'
  have hsm := hcode.small
  have c2 : w.cell? ⟨g, 2, none⟩ = some (.int .i64 h) := by simp [World.cell?, hb]
  have f2 : w.frozen? ⟨g, 2, none⟩ = false := by simp [World.frozen?, hb]
  have HB := Lib.hid hb; have HC := Lib.hid hcode; clear hb hcode
  go_enter Try.func45, Try.ntmps45
  go_wp2
  generalize HH : wrap64 (wrap64 (h * 6364136223846793005) + 1442695040888963407) = h' at *
  have hh' : -9223372036854775808 ≤ h' ∧ h' ≤ 9223372036854775807 := by rw [← HH]; unfold wrap64; omega
  clear HH
  obtain ⟨h2, h3⟩ := hh'
  have hw1 := Out.set_ (off := 2) (Out.refl g (g + 1) w) (Nat.le_refl _) (Nat.lt_succ_self _) (.int .i64 h')
  have hb1 : (w.setCell ⟨g, 2, none⟩ (.int .i64 h')).heap[g]? = some (.cells #[.slice A n c, .int .i64 i, .int .i64 h'] 80 (0, 0)) := by
    have hb := HB.out
    simp [World.setCell, Array.getElem?_modify, hb]
  generalize HW : w.setCell ⟨g, 2, none⟩ (.int .i64 h') = w1 at *
  clear HW c2 f2
  have c0 : w1.cell? ⟨g, 0, none⟩ = some (.slice A n c) := by simp [World.cell?, hb1]
  have c1 : w1.cell? ⟨g, 1, none⟩ = some (.int .i64 i) := by simp [World.cell?, hb1]
  have c2 : w1.cell? ⟨g, 2, none⟩ = some (.int .i64 h') := by simp [World.cell?, hb1]
  have f1 : w1.frozen? ⟨g, 1, none⟩ = false := by simp [World.frozen?, hb1]
  have HC1 := Lib.hid (Code.out HC.out hw1 (.inl (Nat.le_refl _)))
  have HB1 := Lib.hid hb1; have HW1 := Lib.hid hw1; clear hb1 hw1
  go_quiet (fail)
  obtain ⟨x0, x1⟩ := and255 (bits BinOp.xor IntKind.i64 (h' / 8589934592) (h' / 35184372088832))
  go_wp2
  generalize bits BinOp.and IntKind.i64 (bits BinOp.xor IntKind.i64 (h' / 8589934592) (h' / 35184372088832)) 255 = x at *
  by_cases hin : i < n
  · obtain ⟨g', off, u, rfl, hgl, hxu, hcx⟩ := HC1.out.rd.at_ hin
    obtain ⟨z, rfl, z0, z1⟩ := U_at hxu HC1.out.byt
    have HXU := Lib.hid hxu; clear hxu
    go_quiet (fail)
    go_wp2
    go_quiet (fail)
    go_wp2
    go_ret
    have hq := and255 (x + z)
    refine ⟨_, hq.1, hq.2, rfl, ⟨⟨i + 1, h', ?_, by omega, by omega, h2, h3⟩, ?_⟩, ?_⟩
    · have hb := HB1.out
      simp [World.setCell, Array.getElem?_modify, hb]
    · exact HC1.out.out (((Out.refl g (g + 1) w1).drewN _).set_ (Nat.le_refl _) (Nat.lt_succ_self _) _) (.inl (Nat.le_refl _))
    · exact (HW1.out.drewN _).set_ (Nat.le_refl _) (Nat.lt_succ_self _) _
  · go_quiet (fail)
    go_wp2
    go_ret
    exact ⟨x, x0, x1, rfl, ⟨⟨i, h', HB1.out, by omega, by omega, h2, h3⟩, HC1.out.out (((Out.refl g (g + 1) w1).drewN _).drewN _) (.inl (Nat.le_refl _))⟩, (HW1.out.drewN _).drewN _⟩
/-- A contract that gives a number of a range and leaves the cursor a cursor. -/
def Gives (lo hi : Int) (g : Nat) (A : Option Addr) (n c : Nat) (l : List Int) (w : World) (e : Ending) (w' : World) : Prop :=
  ∃ x : Int, lo ≤ x ∧ x ≤ hi ∧ e = .returned (.int .i64 x) ∧ Cur w' g A n c l ∧ Out g (g + 1) w w'

theorem and_small (m : Int) : 0 ≤ bits .and .i64 m 1073741823 ∧ bits .and .i64 m 1073741823 ≤ 1073741823 := by
  have e : bits .and .i64 m 1073741823 = m % 1073741824 := by
    have h127 : (BitVec.ofInt 64 1073741823).toNat = 2 ^ 30 - 1 := by decide
    have key : (BitVec.ofInt 64 m &&& BitVec.ofInt 64 1073741823).toNat = (m % ((2 ^ 64 : Nat) : Int)).toNat % 2 ^ 30 := by
      rw [BitVec.toNat_and, BitVec.toNat_ofInt, h127, Nat.and_two_pow_sub_one_eq_mod]
    show IntKind.i64.wrap ((BitVec.ofInt 64 m &&& BitVec.ofInt 64 1073741823).toNat : Nat) = m % 1073741824
    rw [key, IntKind.wrap_i64]
    omega
  rw [e]; omega

/-- l01New makes a cursor in the block at the heap's end. -/
def Made (A : Option Addr) (n c : Nat) (l : List Int) (w : World) (e : Ending) (w' : World) : Prop :=
  ∃ g, w.heap.size ≤ g ∧ g < w'.heap.size ∧ e = .returned (.pointer (some ⟨g, 0, none⟩)) ∧ Cur w' g A n c l ∧ Below w.heap.size w w'

set_option maxRecDepth 100000 in
set_option maxHeartbeats 400000 in
theorem new_any (w : World) (hi : Nat) (A : Option Addr) (n c : Nat) (l : List Int) (hc : Code w hi A n l) :
    Calls Try.prog 25 #[.slice A n c] w (Made A n c l w) := by
  have hsm := hc.small
  have HC := Lib.hid hc; clear hc
  go_enter Try.func25, Try.ntmps25
  go_wp2
  go_loop [3, 4] (fun v i => ∃ (k : Nat) (h : Int), k ≤ n ∧ i = .int .i64 k ∧ v = .int .i64 h ∧ 0 ≤ h ∧ h ≤ 1073741823) (fun _ i => n - (intOf i).toNat)
  case atStart => exact ⟨0, _, Nat.zero_le _, rfl, rfl, by omega, by omega⟩
  case round =>
    obtain ⟨k, h, hk, rfl, rfl, h0, h1⟩ := hrel
    by_cases hlt : k < n
    · by_cases h4 : k < 4000
      · obtain ⟨g', off, u, rfl, hgl, hxu, hcx⟩ := HC.out.rd.at_ hlt
        obtain ⟨z, rfl, z0, z1⟩ := U_at hxu HC.out.byt
        have HXU := Lib.hid hxu; clear hxu
        go_wp2
        go_round
        case rel =>
          have hq := and_small (h * 109 + z + 7)
          exact ⟨k + 1, _, by omega, by go_num, rfl, hq.1, hq.2⟩
        case measure => simp [intOf]; omega
      · go_wp2
        go_ret
        refine ⟨w.heap.size, Nat.le_refl _, by simp, rfl, ⟨⟨0, h, heap_alloc_new _ _, by omega, by omega, by omega, by omega⟩, ?_⟩, (Below.refl _ _).alloc (Nat.le_refl _) _⟩
        exact (HC.out.keep ((Below.refl w.heap.size w).alloc (Nat.le_refl _) _) HC.out.rd.2.1).wider HC.out.rd.2.1 (by simp)
    · go_wp2
      go_ret
      refine ⟨w.heap.size, Nat.le_refl _, by simp, rfl, ⟨⟨0, h, heap_alloc_new _ _, by omega, by omega, by omega, by omega⟩, ?_⟩, (Below.refl _ _).alloc (Nat.le_refl _) _⟩
      exact (HC.out.keep ((Below.refl w.heap.size w).alloc (Nat.le_refl _) _) HC.out.rd.2.1).wider HC.out.rd.2.1 (by simp)
end Go.Proofs.Ytngglhbcpeigcaa.cur

/-
  A slice of bytes that came in: what its reading says of its cells.
-/
namespace Go.Proofs.Ytngglhbcpeigcaa.cur
open Go.ChangeShapes Go.WideShapes Go.ChangeAt Go.RowKit
open Go.Proofs.Ytngglhbcpeigcaa.mem
theorem open_B {H : Type} {enc : TypeId × Value → H} {P : Program} {W : World} {t e : TypeId} {A : Option Addr} {n c : Nat} {d : DataW H} {ps : List MemPlace}
    (ht : P.underlying t = some (.slice e)) (he : P.underlying e = some (.int .u8)) (hc : P.cellsOf e = 1) (h : DataW.Trod enc P W 0 (fun _ => true) true t (.slice A n c) d ps) :
    ∃ xs : List Int, Rd W W.heap.size A n (U xs) ∧ n ≤ c ∧ c ≤ maxLen ∧ Bytes xs := by
  obtain ⟨fuel, hf⟩ := h
  rcases open_ints ht he hc hf with ⟨hcs, _⟩ | ⟨x, l, cap, ss, hcs, _, hl, hm, hz, _, hcell, hwz⟩
  · simp [Value.cells] at hcs
    obtain ⟨rfl, rfl, rfl⟩ := hcs
    exact ⟨[], ⟨rfl, Nat.le_refl _, fun h => absurd h (by omega)⟩, Nat.le_refl _, by simp, fun z hz => by cases hz⟩
  · simp [Value.cells] at hcs
    obtain ⟨rfl, rfl, rfl⟩ := hcs
    have hz' : ss.length = c := by simpa using hz
    refine ⟨ss.take n, Rd.of_cells (by simp [U]; omega) (fun i hi => ?_), hl, hm, fun z hz => ?_⟩
    · rw [hcell i (by omega)]
      simp [U, hi, List.getD, List.getElem?_eq_getElem (show i < ss.length by omega)]
    · have := hwz z (List.mem_of_mem_take hz)
      simpa [Lit.wf, IntKind.min, IntKind.max, IntKind.signed, IntKind.bits] using this
end Go.Proofs.Ytngglhbcpeigcaa.cur

/-
  Draws: contracts of l20New, MakeNum, l01Below, l01Str, as far as ranges go.
-/
namespace Go.Proofs.Ytngglhbcpeigcaa.cur
open Go.ChangeShapes Go.WideShapes Go.ChangeAt Go.RowKit
open Go.Proofs.Ytngglhbcpeigcaa.mem
set_option linter.unusedVariables false
set_option maxRecDepth 100000

theorem Cur.lt {w : World} {g : Nat} {A : Option Addr} {n c : Nat} {l : List Int} (h : Cur w g A n c l) : g < w.heap.size := by
  obtain ⟨⟨i, q, hb, _⟩, _⟩ := h
  rcases Nat.lt_or_ge g w.heap.size with hlt | hge
  · exact hlt
  · rw [Array.getElem?_eq_none hge] at hb; cases hb
theorem Cur.keep {w w' : World} {g B : Nat} {A : Option Addr} {n c : Nat} {l : List Int} (h : Cur w g A n c l) (hb : Below B w w') (hB : g < B) : Cur w' g A n c l := by
  obtain ⟨⟨i, q, hk, r⟩, hc⟩ := h
  exact ⟨⟨i, q, by rw [hb.block g hB]; exact hk, r⟩, hc.keep hb (by omega)⟩
theorem Cur.out {w w' : World} {g lo hi : Nat} {A : Option Addr} {n c : Nat} {l : List Int} (h : Cur w g A n c l) (ho : Out lo hi w w') (hd : g < lo) : Cur w' g A n c l := by
  have hl := h.lt
  obtain ⟨⟨i, q, hk, r⟩, hc⟩ := h
  exact ⟨⟨i, q, by rw [ho.block g hl (.inl hd)]; exact hk, r⟩, hc.out ho (.inl (by omega))⟩

set_option maxHeartbeats 400000 in
theorem skip_any (w : World) (hi : Nat) (A : Option Addr) (n c : Nat) (l : List Int) (m : Nat) (hm : m ≤ 1000) (hc : Code w hi A n l) :
    Calls Try.prog 23 #[.slice A n c, .int .i64 m] w (Made A n c l w) := by
  have HC := Lib.hid hc; clear hc
  go_enter Try.func23, Try.ntmps23
  go_wp2_with fail
  refine (new_any w hi A n c l HC.out).mono ?_
  rintro e w1 ⟨g, hg, hlt, rfl, hcur, hb⟩
  have HCU := Lib.hid hcur; have HB := Lib.hid hb; clear hcur hb
  go_wp2_with fail
  go_loopw [6] (fun i wr => ∃ k : Nat, k ≤ m ∧ i = .int .i64 k ∧ Cur wr g A n c l ∧ Below w.heap.size w wr) (fun i _ => m - (intOf i).toNat)
  case atStart => exact ⟨0, Nat.zero_le _, rfl, HCU.out, HB.out⟩
  case round =>
    obtain ⟨k, hk, rfl, hcur, hb⟩ := hrel
    have HCR := Lib.hid hcur; have HBR := Lib.hid hb; clear hcur hb
    by_cases hkm : k < m
    · go_wp2_with fail
      refine (byte_any _ g A n c l HCR.out).mono ?_
      rintro e w2 ⟨x, x0, x1, rfl, hcur, ho⟩
      have HC2 := Lib.hid hcur; have HO := Lib.hid ho; clear hcur ho
      go_wp2_with fail
      go_roundw
      case rel => exact ⟨k + 1, by omega, by go_num, HC2.out, HBR.out.trans (HO.out.below hg HBR.out.size)⟩
      case measure => simp [intOf]; omega
    · go_wp2_with fail
      go_ret
      exact ⟨g, hg, HCR.out.lt, rfl, HCR.out, HBR.out⟩

/-- A number of a range; nothing that was there has turned. -/
def Number (lo hi : Int) (w : World) (e : Ending) (w' : World) : Prop := ∃ x : Int, lo ≤ x ∧ x ≤ hi ∧ e = .returned (.int .i64 x) ∧ Below w.heap.size w w'

set_option maxHeartbeats 400000 in
theorem below_any (w : World) (g : Nat) (A : Option Addr) (n c : Nat) (l : List Int) (k : Int) (h1 : 1 ≤ k) (h2 : k ≤ 2147483648) (hc : Cur w g A n c l) :
    Calls Try.prog 24 #[.pointer (some ⟨g, 0, none⟩), .int .i64 k] w (Gives 0 (k - 1) g A n c l w) := by
  have HC := Lib.hid hc; clear hc
  by_cases hk : k ≤ 256
  · go_enter Try.func24, Try.ntmps24
    go_wp2_with fail
    refine (byte_any _ g A n c l HC.out).mono ?_
    rintro e w2 ⟨x, x0, x1, rfl, hcur, ho⟩
    have HC2 := Lib.hid hcur; have HO := Lib.hid ho; clear hcur ho
    have hne : (k == 0) = false := by rw [beq_eq_false_iff_ne]; omega
    go_wp2_with fail
    go_ret
    have q1 := Int.emod_nonneg x (show k ≠ 0 by omega)
    have q2 := Int.emod_lt_of_pos x (show 0 < k by omega)
    exact ⟨x % k, q1, by omega, rfl, HC2.out, HO.out⟩
  · go_enter Try.func24, Try.ntmps24
    go_wp2_with fail
    refine (byte_any _ g A n c l HC.out).mono ?_
    rintro e w2 ⟨x, x0, x1, rfl, hcur, ho⟩
    have HC2 := Lib.hid hcur; have HO := Lib.hid ho; clear hcur ho
    go_wp2_with fail
    refine (byte_any _ g A n c l HC2.out).mono ?_
    rintro e w3 ⟨y, y0, y1, rfl, hcur, ho⟩
    have HC3 := Lib.hid hcur; have HO3 := Lib.hid (HO.out.trans ho); clear hcur ho
    go_wp2_with fail
    refine (byte_any _ g A n c l HC3.out).mono ?_
    rintro e w4 ⟨z, z0, z1, rfl, hcur, ho⟩
    have HC4 := Lib.hid hcur; have HO4 := Lib.hid (HO3.out.trans ho); clear hcur ho
    go_wp2_with fail
    refine (byte_any _ g A n c l HC4.out).mono ?_
    rintro e w5 ⟨u, u0, u1, rfl, hcur, ho⟩
    have HC5 := Lib.hid hcur; have HO5 := Lib.hid (HO4.out.trans ho); clear hcur ho
    have hne : (k == 0) = false := by rw [beq_eq_false_iff_ne]; omega
    go_wp2_with fail
    go_ret
    have q1 := Int.emod_nonneg (x * 16777216 + y * 65536 + z * 256 + u) (show k ≠ 0 by omega)
    have q2 := Int.emod_lt_of_pos (x * 16777216 + y * 65536 + z * 256 + u) (show 0 < k by omega)
    exact ⟨_, q1, by omega, rfl, HC5.out, HO5.out⟩

end Go.Proofs.Ytngglhbcpeigcaa.cur
