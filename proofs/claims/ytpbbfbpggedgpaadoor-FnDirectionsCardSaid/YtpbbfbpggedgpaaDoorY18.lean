import Derived.Test.YtpbbfbpggedgpaaDoorY17
import Derived.Test.YtpbbfbpggedgpaaDoorY14
import Derived.Test.YtpbbfbpggedgpaaDoorY13
import Derived.Test.YtpbbfbpggedgpaaDoorY04
import Derived.Test.YtpbbfbpggedgpaaDoorY01
import Derived.WalkMore
/-
  spec.l08Cylinders, spec.CylindersOf.
-/
namespace Go.Proofs.YtpbbfbpggedgpaaDoor.cy
open Go.ChangeShapes Go.WideShapes Go.ChangeAt Go.RowKit
open Go.Proofs.YtpbbfbpggedgpaaDoor.mem Go.Proofs.YtpbbfbpggedgpaaDoor.ints Go.Proofs.YtpbbfbpggedgpaaDoor.arr Go.Proofs.YtpbbfbpggedgpaaDoor.pm Go.Proofs.YtpbbfbpggedgpaaDoor.permOf Go.Proofs.YtpbbfbpggedgpaaDoor.fns Go.Proofs.YtpbbfbpggedgpaaDoor.sf Go.Proofs.YtpbbfbpggedgpaaDoor.mat Go.Proofs.YtpbbfbpggedgpaaDoor.gl Go.Proofs.YtpbbfbpggedgpaaDoor.lp
set_option linter.unusedVariables false
set_option maxRecDepth 100000

/-- Amid the specification's list. -/
structure Cq (w4 wr : World) (lo2 : Nat) (S : Option Addr) (N : Nat) (ab : List Int) (rr : List (List Int)) (v : Value) (k : Nat) : Prop where
  row : Row wr lo2 w4.heap.size S N (VB (cyS ab rr k).1)
  own : wr.ownsRow w4.heap.size 75 2 v (cyS ab rr k).2.length (V (fl (cyS ab rr k).2))
  out : Out lo2 w4.heap.size w4 wr
theorem own_Out {w w' : World} {base n lo hi : Nat} {v : Value} {xs : List Value} {e : TypeId} {size : Nat} (h : w.ownsRow base e size v n xs) (hf : Out lo hi w w') (hb : hi ≤ base) : w'.ownsRow base e size v n xs := by
  refine ⟨h.1, ?_⟩
  rcases h.2 with h0 | ⟨g, cap, cur, h1, h2, h3, h4⟩
  · exact .inl h0
  · refine .inr ⟨g, cap, cur, h1, h2, ?_, h4⟩
    have hlt : g < w.heap.size := by
      rcases Nat.lt_or_ge g w.heap.size with q | q
      · exact q
      · rw [Array.getElem?_eq_none q] at h3; cases h3
    rw [hf.block g hlt (.inr (by omega))]
    exact h3
theorem Out.grown_ {lo hi : Nat} {w W w' : World} {base n : Nat} {v : Value} {xs : List Value} {e : TypeId} {size : Nat} (h : Out lo hi w W) (ho : W.ownsRow base e size v n xs) (hb : w.heap.size ≤ base) (hg : W.grownBy w' v.ownBlock) : Out lo hi w w' :=
  ⟨hg.os.trans h.os, hg.tape.trans h.tape, hg.output.trans h.output, Nat.le_trans h.size hg.size, fun k h1 h2 => (hg.block k (Nat.lt_of_lt_of_le h1 h.size) (fun e => by have := (ho.lt k e.symm).1; omega)).trans (h.block k h1 h2)⟩
theorem Row.grown_ {lo hi N : Nat} {W w' : World} {base n : Nat} {v : Value} {xs ys : List Value} {e : TypeId} {size : Nat} {S : Option Addr} (h : Row W lo hi S N ys) (ho : W.ownsRow base e size v n xs) (hb : hi ≤ base) (hg : W.grownBy w' v.ownBlock) : Row w' lo hi S N ys :=
  Row.mid h hg.size (fun k h1 h2 => hg.block k (by have := h.2.1; omega) (fun e => by have := (ho.lt k e.symm).1; omega))

end Go.Proofs.YtpbbfbpggedgpaaDoor.cy

/-
  What the cylinders add up to: mathematics alone.
-/
namespace Go.Proofs.YtpbbfbpggedgpaaDoor.cy
open Go.Proofs.YtpbbfbpggedgpaaDoor.pm Go.Proofs.YtpbbfbpggedgpaaDoor.arr
set_option linter.unusedVariables false
set_option maxRecDepth 100000

/-- The lengths of the marked rows, added up. -/
def wsum : List Bool → List (List Int) → Nat
  | b :: M, xs :: R => (if b then xs.length else 0) + wsum M R
  | _, _ => 0
theorem cnt_cons (b : Bool) (M : List Bool) : cnt (b :: M) = (if b then 1 else 0) + cnt M := by
  unfold cnt
  rw [List.count_cons]
  cases b <;> simp <;> omega
theorem wsum_more {l : Nat} : ∀ {M M' : List Bool} {R : List (List Int)}, M.length = R.length → M'.length = R.length → (∀ j, on M j → on M' j) → (∀ (j : Nat) (xs : List Int), R[j]? = some xs → on M' j → ¬ on M j → xs.length = l) →
    wsum M' R + l * cnt M = wsum M R + l * cnt M' ∧ cnt M ≤ cnt M'
  | [], [], [], _, _, _, _ => by simp [wsum]
  | [], _ :: _, [], _, h2, _, _ => by simp at h2
  | _ :: _, _, [], h1, _, _, _ => by simp at h1
  | [], _, _ :: _, h1, _, _, _ => by simp at h1
  | _ :: _, [], _ :: _, _, h2, _, _ => by simp at h2
  | b :: M, b' :: M', xs :: R, h1, h2, h3, h4 => by
    obtain ⟨ih, ih2⟩ := wsum_more (l := l) (M := M) (M' := M') (R := R) (by simpa using h1) (by simpa using h2) (fun j hj => by have := h3 (j + 1); simpa [on] using this (by simpa [on] using hj)) (fun j ys hy a b => h4 (j + 1) ys (by simpa using hy) (by simpa [on] using a) (by simpa [on] using b))
    rw [wsum, wsum, cnt_cons, cnt_cons]
    cases b with
    | true =>
      have : b' = true := by have := h3 0; simpa [on] using this
      subst this
      simp only [if_true]
      refine ⟨?_, by omega⟩
      rw [Nat.mul_add, Nat.mul_add]
      omega
    | false =>
      cases b' with
      | false => simp; exact ⟨ih, ih2⟩
      | true =>
        have := h4 0 xs rfl (by simp [on]) (by simp [on])
        simp only [if_true, Bool.false_eq_true, if_false, Nat.mul_add, Nat.mul_one, Nat.zero_add]
        refine ⟨?_, by omega⟩
        omega
theorem wsum_all : ∀ {M : List Bool} {R : List (List Int)}, M.length = R.length → (∀ j, j < R.length → on M j) → wsum M R = (R.map List.length).sum ∧ cnt M = R.length
  | [], [], _, _ => by simp [wsum, cnt]
  | b :: M, xs :: R, h1, h2 => by
    obtain ⟨a, c⟩ := wsum_all (M := M) (R := R) (by simpa using h1) (fun j hj => by have := h2 (j + 1) (by simp; omega); simpa [on] using this)
    have : b = true := by have := h2 0 (by simp); simpa [on] using this
    subst this
    rw [wsum, cnt_cons]
    simp [a, c]; omega
theorem wsum_none : ∀ (R : List (List Int)), wsum (List.replicate R.length false) R = 0 ∧ cnt (List.replicate R.length false) = 0
  | [] => by simp [wsum, cnt]
  | xs :: R => by
    obtain ⟨a, b⟩ := wsum_none R
    rw [List.length_cons, List.replicate_succ, wsum, cnt_cons]
    simp [a, b]
def aS (L : List (Int × Int)) : Int := (L.map fun x => x.1 * x.2).sum
def hS (L : List (Int × Int)) : Int := (L.map fun x => x.2).sum
theorem aS_app (L : List (Int × Int)) (x : Int × Int) : aS (L ++ [x]) = aS L + x.1 * x.2 := by simp [aS]
theorem hS_app (L : List (Int × Int)) (x : Int × Int) : hS (L ++ [x]) = hS L + x.2 := by simp [hS]
structure Cyl (ab : List Int) (rr : List (List Int)) (i : Nat) : Prop where
  area : aS (cyS ab rr i).2 = wsum (cyS ab rr i).1 rr
  high : hS (cyS ab rr i).2 = cnt (cyS ab rr i).1
  all : ∀ j, j < i → on (cyS ab rr i).1 j
  each : ∀ x ∈ (cyS ab rr i).2, ∃ w h : Nat, x = ((w : Int), (h : Int)) ∧ 1 ≤ w ∧ 1 ≤ h ∧ ∃ (j : Nat) (xs : List Int), rr[j]? = some xs ∧ xs.length = w
theorem cyl_ok {n : Nat} {r u : List Int} (s : Sf n r u) {rr : List (List Int)} (h : Rws n r rr) : ∀ i, i ≤ rr.length → Cyl (abF (comm r u) u rr) rr i
  | 0, _ => by
    obtain ⟨a, b⟩ := wsum_none rr
    exact ⟨by simp [cyS, aS, a], by simp [cyS, hS, b], fun j hj => by omega, fun x hx => by simp [cyS] at hx⟩
  | i + 1, hi => by
    have ih := cyl_ok s h i (by omega)
    have inj := ab_inj s h
    obtain ⟨o1, o2, o3⟩ := cyS_ok inj i (by omega)
    by_cases q : (cyS (abF (comm r u) u rr) rr i).1[i]? = some true
    · have e := cyS_yes q
      refine ⟨by rw [e]; exact ih.area, by rw [e]; exact ih.high, fun j hj => ?_, by rw [e]; exact ih.each⟩
      rw [e]
      by_cases z : j = i
      · subst z; exact q
      · exact ih.all j (by omega)
    · have e := cyS_no (not_on (by omega) q)
      have hx : rr[i]? = some rr[i] := List.getElem?_eq_getElem (by omega)
      have hD : rr.getD i [] = rr[i] := by simp [List.getD, hx]
      rw [hD] at e
      have ia := ih.area; have ib := ih.high; have ic := ih.all; have ie := ih.each
      clear ih
      generalize hM : (cyS (abF (comm r u) u rr) rr i).1 = M at *
      generalize hL : (cyS (abF (comm r u) u rr) rr i).2 = L at *
      have sub : ∀ j, on M j → on (clos rr.length (abF (comm r u) u rr) M i) j := fun j hj => clos_sub o1 hj
      have same : ∀ (j : Nat) (xs : List Int), rr[j]? = some xs → on (clos rr.length (abF (comm r u) u rr) M i) j → ¬ on M j → xs.length = rr[i].length := by
        intro j xs hj hon hno
        have hjl := (List.getElem?_eq_some_iff.1 hj).1
        have hT := (clos_on hjl).1 hon (fun k => on M k ∨ ∃ ys, rr[k]? = some ys ∧ ys.length = rr[i].length) (fun a x ha hax => ?_) (fun k hk => .inl hk) (.inr ⟨_, hx, rfl⟩)
        · rcases hT with z | ⟨ys, z1, z2⟩
          · exact absurd z hno
          · rw [hj] at z1; obtain rfl := Option.some.inj z1; exact z2
        · have hxl : x < rr.length := by have := inj.rng a ha; omega
          have ea := List.getElem?_eq_getElem ha
          have ex := List.getElem?_eq_getElem hxl
          have hlen := ab_len s h ha hax ea ex
          constructor
          · rintro (z | ⟨ys, z1, z2⟩)
            · exact .inl ((o2 a x ha hax).1 z)
            · rw [ea] at z1; obtain rfl := Option.some.inj z1
              exact .inr ⟨_, ex, by omega⟩
          · rintro (z | ⟨ys, z1, z2⟩)
            · exact .inl ((o2 a x ha hax).2 z)
            · rw [ex] at z1; obtain rfl := Option.some.inj z1
              exact .inr ⟨_, ea, by omega⟩
      obtain ⟨w1, w2⟩ := wsum_more (l := rr[i].length) o1 (clos_len _ _ _ _) sub same
      have hnew : cnt M < cnt (clos rr.length (abF (comm r u) u rr) M i) := by
        have hs := clos_self (ab := abF (comm r u) u rr) (M := M) (show i < rr.length by omega)
        have hcm : M[i]? = some false := not_on (by omega) q
        obtain ⟨_, w3⟩ := wsum_more (l := rr[i].length) (M := M.set i true) (M' := clos rr.length (abF (comm r u) u rr) M i) (R := rr) (by rw [List.length_set]; exact o1) (clos_len _ _ _ _) (fun j hj => by
          rcases (on_set (by omega)).1 hj with z | z
          · subst z; exact hs
          · exact sub j z) (fun j xs a b c => same j xs a b (fun z => c ((on_set (by omega)).2 (.inr z))))
        rw [cnt_set hcm] at w3
        omega
      refine ⟨?_, ?_, fun j hj => ?_, fun x hx2 => ?_⟩
      · rw [e]
        show aS (L ++ [_]) = _
        rw [aS_app, ia]
        show (wsum M rr : Int) + (rr[i].length : Int) * ((cnt (clos rr.length (abF (comm r u) u rr) M i) - cnt M : Nat) : Int) = (wsum (clos rr.length (abF (comm r u) u rr) M i) rr : Int)
        have : wsum M rr + rr[i].length * (cnt (clos rr.length (abF (comm r u) u rr) M i) - cnt M) = wsum (clos rr.length (abF (comm r u) u rr) M i) rr := by
          rw [Nat.mul_sub]
          have := Nat.mul_le_mul_left rr[i].length w2
          omega
        rw [← this]; simp
      · rw [e]
        show hS (L ++ [_]) = _
        rw [hS_app, ib]
        show (cnt M : Int) + ((cnt (clos rr.length (abF (comm r u) u rr) M i) - cnt M : Nat) : Int) = (cnt (clos rr.length (abF (comm r u) u rr) M i) : Int)
        omega
      · rw [e]
        by_cases z : j = i
        · subst z; exact clos_self (by omega)
        · exact sub j (ic j (by omega))
      · rw [e] at hx2
        rcases List.mem_append.1 hx2 with z | z
        · exact ie x z
        · obtain rfl : x = _ := by simpa using z
          exact ⟨rr[i].length, _, rfl, (h.head hx).1, by omega, i, _, hx, rfl⟩
end Go.Proofs.YtpbbfbpggedgpaaDoor.cy

/-
  Common divisors, LeastShears of the specification and of the program.
-/
namespace Go.Proofs.YtpbbfbpggedgpaaDoor.cy
open Go.ChangeShapes Go.WideShapes Go.ChangeAt Go.RowKit
open Go.Proofs.YtpbbfbpggedgpaaDoor.mem Go.Proofs.YtpbbfbpggedgpaaDoor.ints Go.Proofs.YtpbbfbpggedgpaaDoor.arr Go.Proofs.YtpbbfbpggedgpaaDoor.pm Go.Proofs.YtpbbfbpggedgpaaDoor.sf Go.Proofs.YtpbbfbpggedgpaaDoor.gl Go.Proofs.YtpbbfbpggedgpaaDoor.lp
set_option linter.unusedVariables false
set_option maxRecDepth 100000

set_option maxHeartbeats 1000000 in
theorem gcd_spec (a b : Nat) (w : World) (ha : a ≤ 16777216) (hb : b ≤ 16777216) :
    Calls Tryd.prog 25 #[.int .i64 a, .int .i64 b] w fun e w' => e = .returned (.int .i64 (Nat.gcd a b : Nat)) ∧ Drawn w w' := by
  go_enter Tryd.func25, Tryd.ntmps25
  go_wp2
  go_loopw [0, 1] (fun av bv wr => ∃ x y : Nat, x ≤ 16777216 ∧ y ≤ 16777216 ∧ av = .int .i64 x ∧ bv = .int .i64 y ∧ Drawn w wr ∧ Hid (Nat.gcd x y = Nat.gcd a b)) (fun _ bv _ => (intOf bv).toNat)
  case atStart => exact ⟨a, b, ha, hb, rfl, rfl, ⟨0, rfl⟩, Lib.hid rfl⟩
  case round =>
    obtain ⟨x, y, hx, hy, rfl, rfl, hdr, HG⟩ := hrel
    have HD := Lib.hid hdr; clear hdr
    by_cases h0 : y = 0
    · subst h0
      have HE : Hid (x = Nat.gcd a b) := Lib.hid (by rw [← HG.out, Nat.gcd_zero_right])
      go_wp2
      go_ret
      exact ⟨ret_int (by rw [← HE.out]), HD.out⟩
    · have hb0 : ((y : Int) != 0) = true := by simp; omega
      have hm : x % y < y := Nat.mod_lt _ (by omega)
      have e1 : (x : Int).tmod y = ((x % y : Nat) : Int) := by rw [← Int.ofNat_tmod]
      have NG : Hid (Nat.gcd y (x % y) = Nat.gcd a b) := Lib.hid (by rw [← HG.out, Nat.gcd_comm x y, Nat.gcd_rec y x, Nat.gcd_comm])
      generalize hz : x % y = z at *
      have hw := IntWalk.i64_in (z : Int) (by omega)
      go_wp2
      go_roundw
      case rel => exact ⟨y, z, by omega, by omega, rfl, by first | rfl | (congr 1), by first | exact HD.out | exact HD.out.more 1 | exact (HD.out.more 1).more 1, NG⟩
      case measure => simp [intOf]; omega

set_option maxHeartbeats 1000000 in
theorem gcd_impl (a b : Nat) (w : World) (ha : a ≤ 16777216) (hb : b ≤ 16777216) :
    Calls Tryd.prog 34 #[.int .i64 a, .int .i64 b] w fun e w' => e = .returned (.int .i64 (Nat.gcd a b : Nat)) ∧ Drawn w w' := by
  go_enter Tryd.func34, Tryd.ntmps34
  go_wp2
  go_loopw [0, 1] (fun av bv wr => ∃ x y : Nat, x ≤ 16777216 ∧ y ≤ 16777216 ∧ av = .int .i64 x ∧ bv = .int .i64 y ∧ Drawn w wr ∧ Hid (Nat.gcd x y = Nat.gcd a b)) (fun _ bv _ => (intOf bv).toNat)
  case atStart => exact ⟨a, b, ha, hb, rfl, rfl, ⟨0, rfl⟩, Lib.hid rfl⟩
  case round =>
    obtain ⟨x, y, hx, hy, rfl, rfl, hdr, HG⟩ := hrel
    have HD := Lib.hid hdr; clear hdr
    by_cases h0 : y = 0
    · subst h0
      have HE : Hid (x = Nat.gcd a b) := Lib.hid (by rw [← HG.out, Nat.gcd_zero_right])
      go_wp2
      go_ret
      exact ⟨ret_int (by rw [← HE.out]), HD.out⟩
    · have hb0 : ((y : Int) != 0) = true := by simp; omega
      have hm : x % y < y := Nat.mod_lt _ (by omega)
      have e1 : (x : Int).tmod y = ((x % y : Nat) : Int) := by rw [← Int.ofNat_tmod]
      have NG : Hid (Nat.gcd y (x % y) = Nat.gcd a b) := Lib.hid (by rw [← HG.out, Nat.gcd_comm x y, Nat.gcd_rec y x, Nat.gcd_comm])
      generalize hz : x % y = z at *
      have hw := IntWalk.i64_in (z : Int) (by omega)
      go_wp2
      go_region
      go_wp2
      go_roundw
      case rel => exact ⟨y, z, by omega, by omega, rfl, by first | rfl | (congr 1), by first | exact HD.out | exact HD.out.more 1 | exact (HD.out.more 1).more 1, NG⟩
      case measure => simp [intOf]; omega

theorem cyl_all {r u : List Int} (h : transB r u = true) : aS (cyF r u) = r.length ∧ hS (cyF r u) = (cycF r).length ∧ ∀ x ∈ cyF r u, ∃ w h : Nat, x = ((w : Int), (h : Int)) ∧ 1 ≤ w ∧ 1 ≤ h ∧ w ≤ 24 := by
  have sw := cycF_rows h rfl
  have c := cyl_ok sw.sf sw.rw (cycF r).length (Nat.le_refl _)
  have o := cyS_ok (ab_inj sw.sf sw.rw) (cycF r).length (Nat.le_refl _)
  obtain ⟨a1, a2⟩ := wsum_all o.1 c.all
  have hsum : ((cycF r).map List.length).sum = r.length := by
    rw [cycF, sw.sf.r.b, if_pos rfl]
    exact cso_len sw.sf.br
  rw [cyF_yes h]
  refine ⟨by show aS (cyS _ _ _).2 = _; rw [c.area, a1, hsum], by show hS (cyS _ _ _).2 = _; rw [c.high, a2], fun x hx => ?_⟩
  obtain ⟨w, hh, e, e1, e2, j, xs, q1, q2⟩ := c.each x hx
  have := (sw.rw.way q1).choose_spec.2.2.inn.len
  have := sw.sf.small
  exact ⟨w, hh, e, e1, e2, by omega⟩
def wS (L : List Cy) : Nat := (L.map fun x => x.1.toNat).sum
theorem wS_le : ∀ {L : List Cy}, (∀ x ∈ L, ∃ w h : Nat, x = ((w : Int), (h : Int)) ∧ 1 ≤ w ∧ 1 ≤ h ∧ w ≤ 24) → (wS L : Int) ≤ aS L ∧ (∀ x ∈ L, x.2 ≤ hS L) ∧ 0 ≤ hS L
  | [], _ => by simp [wS, aS, hS]
  | x :: t, h => by
    obtain ⟨a, b, c⟩ := wS_le (L := t) (fun y hy => h y (by simp [hy]))
    obtain ⟨w, hh, rfl, h1, h2, h3⟩ := h x (by simp)
    have e1 : wS (((w : Int), (hh : Int)) :: t) = w + wS t := by simp [wS]
    have e2 : aS (((w : Int), (hh : Int)) :: t) = (w : Int) * hh + aS t := by simp [aS]
    have e3 : hS (((w : Int), (hh : Int)) :: t) = (hh : Int) + hS t := by simp [hS]
    have m : (w : Int) * 1 ≤ (w : Int) * hh := Int.mul_le_mul_of_nonneg_left (by omega) (by omega)
    refine ⟨by rw [e1, e2]; omega, fun y hy => ?_, by rw [e3]; omega⟩
    rw [e3]
    rcases List.mem_cons.1 hy with z | z
    · subst z; show (hh : Int) ≤ _; omega
    · have := b y z; omega
def need (x : Cy) : Nat := x.1.toNat / Nat.gcd x.1.toNat x.2.toNat
def lsG : List Cy → Nat → Nat
  | [], n => n
  | x :: t, n => lsG t (Nat.lcm n (need x))
noncomputable def lsF (r u : List Int) : Int := if transB r u then (lsG (cyF r u) 1 : Nat) else 0
theorem need_le (w h : Nat) (hw : 1 ≤ w) : 1 ≤ w / Nat.gcd w h ∧ w / Nat.gcd w h ≤ w :=
  ⟨Nat.div_pos (Nat.gcd_le_left _ hw) (Nat.gcd_pos_of_pos_left _ hw), Nat.div_le_self _ _⟩
theorem lcm_l (n k : Nat) : n / Nat.gcd n k * k = Nat.lcm n k := by
  unfold Nat.lcm
  rw [Nat.div_mul_right_comm (Nat.gcd_dvd_left n k)]
theorem lcm_r (n k : Nat) : n * (k / Nat.gcd n k) = Nat.lcm n k := by
  unfold Nat.lcm
  rw [Nat.mul_div_assoc _ (Nat.gcd_dvd_right n k)]
structure Lq (L : List Cy) (k n : Nat) : Prop where
  pos : 0 < n
  le : n ≤ 2 ^ wS (L.take k)
  go : lsG (L.drop k) n = lsG L 1
theorem Lq.start (L : List Cy) : Lq L 0 1 := ⟨by omega, by simp [wS], rfl⟩
theorem Lq.bound {L : List Cy} {k n : Nat} (h : Lq L k n) (hw : wS L ≤ 24) : n ≤ 16777216 := by
  have h1 : wS (L.take k) ≤ wS L := by
    have e : wS L = wS (L.take k) + wS (L.drop k) := by unfold wS; rw [← List.sum_append, ← List.map_append, List.take_append_drop]
    omega
  have h2 : 2 ^ wS (L.take k) ≤ 2 ^ 24 := Nat.pow_le_pow_right (by omega) (by omega)
  have := h.le
  omega
theorem Lq.next {L : List Cy} {k n w h : Nat} (hl : Lq L k n) (hx : L[k]? = some ((w : Int), (h : Int))) (h1 : 1 ≤ w) (h2 : 1 ≤ h) : Lq L (k + 1) (Nat.lcm n (w / Nat.gcd w h)) := by
  obtain ⟨a, b⟩ := need_le w h h1
  have e : need ((w : Int), (h : Int)) = w / Nat.gcd w h := by simp [need]
  have hp := hl.pos
  refine ⟨Nat.lcm_pos hp a, ?_, ?_⟩
  · have e2 : wS (L.take (k + 1)) = wS (L.take k) + w := by rw [List.take_add_one, hx]; simp [wS]
    rw [e2, Nat.pow_add]
    have h3 : Nat.lcm n (w / Nat.gcd w h) ≤ n * (w / Nat.gcd w h) := Nat.le_of_dvd (Nat.mul_pos hp a) (Nat.lcm_dvd_mul _ _)
    have h4 : w < 2 ^ w := Nat.lt_two_pow_self
    exact Nat.le_trans h3 (Nat.mul_le_mul hl.le (by omega))
  · have hk := (List.getElem?_eq_some_iff.1 hx).1
    have hd : L.drop k = ((w : Int), (h : Int)) :: L.drop (k + 1) := by
      rw [List.drop_eq_getElem_cons hk]
      congr 1
      rw [List.getElem?_eq_getElem hk] at hx
      exact Option.some.inj hx
    rw [← hl.go, hd, lsG, e]
theorem Lq.fin {L : List Cy} {k n : Nat} (h : Lq L k n) (hk : L.length ≤ k) : n = lsG L 1 := by
  rw [← h.go, List.drop_of_length_le hk]; rfl
theorem lsF_no {r u : List Int} (h : transB r u = false) : lsF r u = 0 := by simp [lsF, h]
theorem lsF_yes {r u : List Int} (h : transB r u = true) : lsF r u = (lsG (cyF r u) 1 : Nat) := by simp [lsF, h]

end Go.Proofs.YtpbbfbpggedgpaaDoor.cy

/-
  What FnCylinders asks, of lists: mathematics alone.
-/
namespace Go.Proofs.YtpbbfbpggedgpaaDoor.cy
open Go.Proofs.YtpbbfbpggedgpaaDoor.pm Go.Proofs.YtpbbfbpggedgpaaDoor.arr
set_option linter.unusedVariables false
set_option maxRecDepth 100000

theorem areaGo_sum : ∀ {L : List Cy} {s : Int}, (∀ x ∈ L, 1 ≤ x.1 ∧ x.1 ≤ 24 ∧ 1 ≤ x.2 ∧ x.2 ≤ 24) → areaGo L s = s + aS L
  | [], s, _ => by simp [areaGo, aS]
  | x :: t, s, h => by
    have e : aS (x :: t) = x.1 * x.2 + aS t := by simp [aS]
    rw [areaGo, if_pos (h x (by simp)), areaGo_sum (fun y hy => h y (by simp [hy])), e]
    omega
structure Fc (r u : List Int) (L : List Cy) (rr : List (List Int)) : Prop where
  area : areaF L = r.length
  pos : 0 < L.length
  le : L.length ≤ rr.length
  small : rr.length ≤ 24
  high : hS L = rr.length
  each : ∀ x ∈ L, 1 ≤ x.1 ∧ x.1 ≤ 24 ∧ 1 ≤ x.2 ∧ x.2 ≤ 24
  sw : Sw r.length r u rr
theorem fc_ok {r u : List Int} (h : transB r u = true) : Fc r u (cyF r u) (cycF r) := by
  obtain ⟨a, b, c⟩ := cyl_all h
  have sw := cycF_rows h rfl
  have n24 : r.length ≤ 24 := sw.sf.small
  have hl : (cyF r u).length ≤ (cycF r).length := by
    rw [cyF_yes h]
    exact (cyS_ok (ab_inj sw.sf sw.rw) (cycF r).length (Nat.le_refl _)).2.2
  have ev : ∀ x ∈ cyF r u, 1 ≤ x.1 ∧ x.1 ≤ 24 ∧ 1 ≤ x.2 ∧ x.2 ≤ 24 := fun x hx => by
    obtain ⟨w, hh, e, h1, h2, h3⟩ := c x hx
    have := (wS_le c).2.1 x hx
    have := sw.rw.len
    rw [e] at *
    dsimp only at *
    omega
  refine ⟨?_, ?_, hl, by have := sw.rw.len; omega, b, ev, sw⟩
  · rw [areaF, if_neg (by have := sw.rw.len; omega), areaGo_sum ev, a]; omega
  · rcases Nat.eq_zero_or_pos (cyF r u).length with z | z
    · have e := List.eq_nil_of_length_eq_zero z
      rw [e] at a
      have := sw.sf.pos
      simp [aS] at a
      omega
    · exact z
theorem hS_take {L : List Cy} (h : ∀ x ∈ L, 1 ≤ x.1 ∧ x.1 ≤ 24 ∧ 1 ≤ x.2 ∧ x.2 ≤ 24) : ∀ k, 0 ≤ hS (L.take k) ∧ hS (L.take k) ≤ 24 * k
  | 0 => by simp [hS]
  | k + 1 => by
    obtain ⟨a, b⟩ := hS_take h k
    rw [List.take_add_one]
    cases e : L[k]? with
    | none => simp; omega
    | some x =>
      have := h x (List.mem_of_getElem? e)
      simp only [Option.toList_some]
      rw [hS_app]
      omega
theorem hS_next {L : List Cy} {k : Nat} {x : Cy} (h : L[k]? = some x) : hS (L.take (k + 1)) = hS (L.take k) + x.2 := by
  rw [List.take_add_one, h]
  simp only [Option.toList_some]
  rw [hS_app]
/-- The row above has the same length. -/
theorem above_len {r u : List Int} (h : transB r u = true) {k j : Nat} {xs ys : List Int} (hk : (cycF r)[k]? = some xs) (hj : (cycF r)[j]? = some ys) (hm : raF r u (xs.getD 0 0) ∈ ys) : ys.length = xs.length := by
  have sw := cycF_rows h rfl
  have hd := (sw.rw.head hk).2
  obtain ⟨a, b⟩ := sw.rw.rng hk hd
  rw [raF_yes h a b, raG, sw.rw.rix hk hd, Int.toNat_natCast] at hm
  split at hm
  · have := (sw.rw.rng hj hm).1; omega
  · rename_i q
    obtain ⟨z, hz⟩ : ∃ z : Nat, at_ (abF (comm r u) u (cycF r)) k = z := ⟨(at_ (abF (comm r u) u (cycF r)) k).toNat, by omega⟩
    rw [hz, Int.toNat_natCast] at hm
    have hkl := (List.getElem?_eq_some_iff.1 hk).1
    have inj := ab_inj sw.sf sw.rw
    have hzl : z < (cycF r).length := by have := inj.rng k hkl; omega
    have ez := List.getElem?_eq_getElem hzl
    have eD : (cycF r).getD z [] = (cycF r)[z] := by simp [List.getD, ez]
    rw [eD] at hm
    have : z = j := sw.rw.same ez hj (sw.rw.head ez).2 hm
    subst this
    rw [hj] at ez
    obtain rfl := Option.some.inj ez
    exact ab_len sw.sf sw.rw hkl hz hk hj
end Go.Proofs.YtpbbfbpggedgpaaDoor.cy

/-
  Directions: Euclid's words, the words of slopes, what they do to a surface. Plain mathematics.
-/
namespace Go.Proofs.YtpbbfbpggedgpaaDoor.dr
open Go.Proofs.YtpbbfbpggedgpaaDoor.arr Go.Proofs.YtpbbfbpggedgpaaDoor.inv Go.Proofs.YtpbbfbpggedgpaaDoor.permOf Go.Proofs.YtpbbfbpggedgpaaDoor.pm
set_option linter.unusedVariables false
set_option maxRecDepth 100000
/-- Is p, q a slope? -/
def slB (p q : Int) : Bool := decide (0 ≤ p) && decide (0 ≤ q) && decide (p + q ≤ 12) && decide (Nat.gcd p.toNat q.toNat = 1)
theorem slB_iff {p q : Int} : slB p q = true ↔ 0 ≤ p ∧ 0 ≤ q ∧ p + q ≤ 12 ∧ Nat.gcd p.toNat q.toNat = 1 := by simp [slB, and_assoc]
theorem slB_nat {p q : Int} (h : slB p q = true) : ∃ a b : Nat, p = a ∧ q = b ∧ a + b ≤ 12 ∧ Nat.gcd a b = 1 ∧ 1 ≤ a + b := by
  obtain ⟨h1, h2, h3, h4⟩ := slB_iff.1 h
  refine ⟨p.toNat, q.toNat, by omega, by omega, by omega, h4, ?_⟩
  by_cases hp : p.toNat = 0
  · by_cases hq : q.toNat = 0
    · rw [hp, hq] at h4; simp at h4
    · omega
  · omega
/-- DirectionWord, with as much fuel as there are steps. -/
def dwN : Nat → Nat → Nat → List UInt8
  | 0, _, _ => []
  | f + 1, p, q => if q = 0 then [] else if p = 0 then [115] else if q < p then 116 :: dwN f (p - q) q else 115 :: 84 :: 83 :: dwN f p (q - p)
theorem dwN_0 (f p : Nat) : dwN f p 0 = [] := by cases f <;> simp [dwN]
theorem dwN_s {f q : Nat} (hf : 0 < f) (hq : 0 < q) : dwN f 0 q = [115] := by
  obtain ⟨f, rfl⟩ : ∃ g, f = g + 1 := ⟨f - 1, by omega⟩
  simp [dwN]; omega
theorem dwN_t {f p q : Nat} (hf : 0 < f) (hq : 0 < q) (hp : q < p) : dwN f p q = 116 :: dwN (f - 1) (p - q) q := by
  obtain ⟨f, rfl⟩ : ∃ g, f = g + 1 := ⟨f - 1, by omega⟩
  rw [dwN, if_neg (by omega), if_neg (by omega), if_pos hp]; rfl
theorem dwN_S {f p q : Nat} (hf : 0 < f) (hp : 0 < p) (hq : p ≤ q) : dwN f p q = 115 :: 84 :: 83 :: dwN (f - 1) p (q - p) := by
  obtain ⟨f, rfl⟩ : ∃ g, f = g + 1 := ⟨f - 1, by omega⟩
  rw [dwN, if_neg (by omega), if_neg (by omega), if_neg (by omega)]; rfl
def dwL (p q : Nat) : List UInt8 := dwN (p + q) p q
/-- The letter of SlopeWord at a place. -/
def swC (p q i : Nat) : UInt8 := if q = 0 ∨ i * q % (p + q) < (i + 1) * q % (p + q) then 114 else 117
def swL (p q : Nat) : List UInt8 := (List.range (p + q)).map (swC p q)
theorem swL_len (p q : Nat) : (swL p q).length = p + q := by simp [swL]
theorem swL_at {p q i : Nat} (h : i < p + q) : (swL p q)[i]? = some (swC p q i) := by simp [swL, h]
theorem swL_snoc {p q i : Nat} (h : i < p + q) : (swL p q).take (i + 1) = (swL p q).take i ++ [swC p q i] := by rw [List.take_add_one, swL_at h]; rfl
theorem swC_or (p q i : Nat) : swC p q i = 114 ∨ swC p q i = 117 := by unfold swC; split <;> simp
theorem swL_or {p q : Nat} {c : UInt8} (h : c ∈ swL p q) : c = 114 ∨ c = 117 := by
  obtain ⟨i, -, rfl⟩ := List.mem_map.1 h
  exact swC_or p q i
/-- The word of a slope by Euclid's algorithm: what the letters r and u become. -/
def eu : Nat → Nat → Nat → List UInt8 → List UInt8 → List UInt8
  | 0, _, _, x, _ => x
  | f + 1, p, q, x, y => if q = 0 then x else if p = 0 then y else if q < p then eu f (p - q) q x (x ++ y) else eu f p (q - p) (x ++ y) y
def okP (a b : Nat) : Bool := decide (a + b ≤ 12) && decide (Nat.gcd a b = 1)
theorem okP_of {a b : Nat} (h : a + b ≤ 12) (g : Nat.gcd a b = 1) : okP a b = true := by simp [okP, h, g]
theorem all13 : ∀ a b : Fin 13, okP a.val b.val = true →
    ((dwL a.val b.val).length ≤ 33 ∧ (dwL a.val b.val).all isL = true) ∧ eu (a.val + b.val) a.val b.val [114] [117] = swL a.val b.val ∧
    ((matW (dwL a.val b.val)).1 * (a.val : Int) + (matW (dwL a.val b.val)).2.1 * (b.val : Int) = 1 ∧ (matW (dwL a.val b.val)).2.2.1 * (a.val : Int) + (matW (dwL a.val b.val)).2.2.2 * (b.val : Int) = 0) := by decide +kernel
section
variable {a b : Nat} (h : a + b ≤ 12) (g : Nat.gcd a b = 1)
include h g
theorem dwL_ok : (dwL a b).length ≤ 33 ∧ (dwL a b).all isL = true := (all13 ⟨a, by omega⟩ ⟨b, by omega⟩ (okP_of h g)).1
theorem eu_sw : eu (a + b) a b [114] [117] = swL a b := (all13 ⟨a, by omega⟩ ⟨b, by omega⟩ (okP_of h g)).2.1
theorem dwL_mat : (matW (dwL a b)).1 * (a : Int) + (matW (dwL a b)).2.1 * (b : Int) = 1 ∧ (matW (dwL a b)).2.2.1 * (a : Int) + (matW (dwL a b)).2.2.2 * (b : Int) = 0 := (all13 ⟨a, by omega⟩ ⟨b, by omega⟩ (okP_of h g)).2.2
end
/-- The permutation along a word of r and u. -/
def stP (R U : List Int) (c : UInt8) : List Int := if c = 114 then R else U
def ev (n : Nat) (R U : List Int) (w : List UInt8) : List Int := w.foldl (fun acc c => thn acc (stP R U c)) (rng n)
theorem ev_snoc (n : Nat) (R U : List Int) (w : List UInt8) (c : UInt8) : ev n R U (w ++ [c]) = thn (ev n R U w) (stP R U c) := by simp [ev]
section
variable {n : Nat} {R U : List Int} (s : Sf n R U)
include s
theorem stP_ok (c : UInt8) : Ok (stP R U c) ∧ (stP R U c).length = n := by
  unfold stP; split
  · exact ⟨s.r, s.lr⟩
  · exact ⟨s.u, s.lu⟩
theorem ev_from : ∀ (w : List UInt8) (acc : List Int), Ok acc → acc.length = n → Ok (w.foldl (fun acc c => thn acc (stP R U c)) acc) ∧ (w.foldl (fun acc c => thn acc (stP R U c)) acc).length = n ∧ w.foldl (fun acc c => thn acc (stP R U c)) acc = thn acc (ev n R U w) := by
  intro w
  have hr : Ok (rng n) := rng_ok s.small
  induction w with
  | nil => intro acc h l; exact ⟨h, l, by show acc = thn acc (rng n); rw [thn_id h l]⟩
  | cons c w ih =>
    intro acc h l
    have st := stP_ok s c
    have o1 : Ok (thn acc (stP R U c)) := thn_ok h st.1 (by rw [l, st.2])
    have o2 : Ok (thn (rng n) (stP R U c)) := thn_ok hr st.1 (by rw [rng_len, st.2])
    obtain ⟨a1, a2, a3⟩ := ih (thn acc (stP R U c)) o1 (by rw [thn_len]; exact l)
    obtain ⟨b1, b2, b3⟩ := ih (thn (rng n) (stP R U c)) o2 (by rw [thn_len, rng_len])
    refine ⟨a1, a2, ?_⟩
    rw [List.foldl_cons, a3]
    unfold ev
    rw [List.foldl_cons, b3, id_thn st.2, thn_assoc h (by rw [l, st.2])]
    rfl
theorem ev_ok (w : List UInt8) : Ok (ev n R U w) ∧ (ev n R U w).length = n := by
  have := ev_from s w (rng n) (rng_ok s.small) (rng_len n)
  exact ⟨this.1, this.2.1⟩
theorem ev_app (x y : List UInt8) : ev n R U (x ++ y) = thn (ev n R U x) (ev n R U y) := by
  have := (ev_from s y (ev n R U x) (ev_ok s x).1 (ev_ok s x).2).2.2
  rw [← this]
  show (x ++ y).foldl _ _ = _
  rw [List.foldl_append]
  rfl
theorem ev_one (c : UInt8) : ev n R U [c] = stP R U c := id_thn (stP_ok s c).2
/-- The rows behind the word of a direction are the ways along the slope. -/
theorem dw_ev : ∀ (f p q : Nat) (x y : List UInt8), p + q ≤ f → (runS (dwN f p q) (ev n R U x, ev n R U y)).1 = ev n R U (eu f p q x y) := by
  intro f
  induction f with
  | zero => intro p q x y h; rfl
  | succ f ih =>
    intro p q x y h
    unfold dwN eu
    have ox := ev_ok s x; have oy := ev_ok s y
    split
    · rfl
    · split
      · show (letS 115 (ev n R U x, ev n R U y)).1 = _
        rfl
      · split
        · show (runS (dwN f (p - q) q) (letS 116 (ev n R U x, ev n R U y))).1 = _
          rw [show letS 116 (ev n R U x, ev n R U y) = (ev n R U x, thn (ev n R U x) (ev n R U y)) from rfl, ← ev_app s]
          exact ih _ _ _ _ (by omega)
        · show (runS (dwN f p (q - p)) (letS 83 (letS 84 (letS 115 (ev n R U x, ev n R U y))))).1 = _
          rw [show letS 83 (letS 84 (letS 115 (ev n R U x, ev n R U y))) = (Inv (thn (Inv (ev n R U y)) (Inv (ev n R U x))), ev n R U y) from rfl]
          rw [← Inv_thn ox.1 oy.1 (by rw [ox.2, oy.2]), Inv_Inv (thn_ok ox.1 oy.1 (by rw [ox.2, oy.2])), ← ev_app s]
          exact ih _ _ _ _ (by omega)
theorem dw_rows {p q : Nat} (h : p + q ≤ 12) (g : Nat.gcd p q = 1) : (runS (dwL p q) (R, U)).1 = ev n R U (swL p q) := by
  have := dw_ev s (p + q) p q [114] [117] (Nat.le_refl _)
  rw [ev_one s, ev_one s, eu_sw h g] at this
  exact this
end
/-- What the functions answer. -/
def wd (L : List UInt8) : ByteArray := ⟨L.toArray⟩
theorem wd_snoc (L : List UInt8) (c : UInt8) : wd L ++ ⟨#[c]⟩ = wd (L ++ [c]) := by
  apply ByteArray.ext
  simp [wd]
theorem wd_size (L : List UInt8) : (wd L).size = L.length := by show L.toArray.size = _; simp
theorem wd_list (L : List UInt8) : (wd L).data.toList = L := rfl
def dwF (p q : Int) : ByteArray := if slB p q then wd (dwL p.toNat q.toNat) else wd []
def swF (p q : Int) : ByteArray := if slB p q then wd (swL p.toNat q.toNat) else wd []
theorem dwF_no {p q : Int} (h : slB p q = false) : dwF p q = wd [] := by simp [dwF, h]
theorem swF_no {p q : Int} (h : slB p q = false) : swF p q = wd [] := by simp [swF, h]
theorem dwF_yes {a b : Nat} (h : slB a b = true) : dwF a b = wd (dwL a b) := by simp [dwF, h]
theorem swF_yes {a b : Nat} (h : slB a b = true) : swF a b = wd (swL a b) := by simp [swF, h]
end Go.Proofs.YtpbbfbpggedgpaaDoor.dr

/-
  SlopeOk, DirectionWord and SlopeWord of the specification and of the program.
-/
namespace Go.Proofs.YtpbbfbpggedgpaaDoor.dr
open Go.ChangeShapes Go.WideShapes Go.ChangeAt Go.RowKit
open Go.Proofs.YtpbbfbpggedgpaaDoor.mem Go.Proofs.YtpbbfbpggedgpaaDoor.ints Go.Proofs.YtpbbfbpggedgpaaDoor.arr Go.Proofs.YtpbbfbpggedgpaaDoor.pm Go.Proofs.YtpbbfbpggedgpaaDoor.permOk
set_option linter.unusedVariables false
set_option maxRecDepth 100000


set_option maxHeartbeats 1000000 in
theorem gcd_spec (a b : Nat) (w : World) (ha : a ≤ 16777216) (hb : b ≤ 16777216) :
    Calls Tryd.prog 25 #[.int .i64 a, .int .i64 b] w fun e w' => e = .returned (.int .i64 (Nat.gcd a b : Nat)) ∧ Drawn w w' := by
  go_enter Tryd.func25, Tryd.ntmps25
  go_wp2
  go_loopw [0, 1] (fun av bv wr => ∃ x y : Nat, x ≤ 16777216 ∧ y ≤ 16777216 ∧ av = .int .i64 x ∧ bv = .int .i64 y ∧ Drawn w wr ∧ Hid (Nat.gcd x y = Nat.gcd a b)) (fun _ bv _ => (intOf bv).toNat)
  case atStart => exact ⟨a, b, ha, hb, rfl, rfl, ⟨0, rfl⟩, Lib.hid rfl⟩
  case round =>
    obtain ⟨x, y, hx, hy, rfl, rfl, hdr, HG⟩ := hrel
    have HD := Lib.hid hdr; clear hdr
    by_cases h0 : y = 0
    · subst h0
      have HE : Hid (x = Nat.gcd a b) := Lib.hid (by rw [← HG.out, Nat.gcd_zero_right])
      go_wp2
      go_ret
      exact ⟨ret_int (by rw [← HE.out]), HD.out⟩
    · have hb0 : ((y : Int) != 0) = true := by simp; omega
      have hm : x % y < y := Nat.mod_lt _ (by omega)
      have e1 : (x : Int).tmod y = ((x % y : Nat) : Int) := by rw [← Int.ofNat_tmod]
      have NG : Hid (Nat.gcd y (x % y) = Nat.gcd a b) := Lib.hid (by rw [← HG.out, Nat.gcd_comm x y, Nat.gcd_rec y x, Nat.gcd_comm])
      generalize hz : x % y = z at *
      have hw := IntWalk.i64_in (z : Int) (by omega)
      go_wp2
      go_roundw
      case rel => exact ⟨y, z, by omega, by omega, rfl, by first | rfl | (congr 1), by first | exact HD.out | exact HD.out.more 1 | exact (HD.out.more 1).more 1, NG⟩
      case measure => simp [intOf]; omega


set_option maxHeartbeats 1000000 in
theorem gcd_impl (a b : Nat) (w : World) (ha : a ≤ 16777216) (hb : b ≤ 16777216) :
    Calls Tryd.prog 34 #[.int .i64 a, .int .i64 b] w fun e w' => e = .returned (.int .i64 (Nat.gcd a b : Nat)) ∧ Drawn w w' := by
  go_enter Tryd.func34, Tryd.ntmps34
  go_wp2
  go_loopw [0, 1] (fun av bv wr => ∃ x y : Nat, x ≤ 16777216 ∧ y ≤ 16777216 ∧ av = .int .i64 x ∧ bv = .int .i64 y ∧ Drawn w wr ∧ Hid (Nat.gcd x y = Nat.gcd a b)) (fun _ bv _ => (intOf bv).toNat)
  case atStart => exact ⟨a, b, ha, hb, rfl, rfl, ⟨0, rfl⟩, Lib.hid rfl⟩
  case round =>
    obtain ⟨x, y, hx, hy, rfl, rfl, hdr, HG⟩ := hrel
    have HD := Lib.hid hdr; clear hdr
    by_cases h0 : y = 0
    · subst h0
      have HE : Hid (x = Nat.gcd a b) := Lib.hid (by rw [← HG.out, Nat.gcd_zero_right])
      go_wp2
      go_ret
      exact ⟨ret_int (by rw [← HE.out]), HD.out⟩
    · have hb0 : ((y : Int) != 0) = true := by simp; omega
      have hm : x % y < y := Nat.mod_lt _ (by omega)
      have e1 : (x : Int).tmod y = ((x % y : Nat) : Int) := by rw [← Int.ofNat_tmod]
      have NG : Hid (Nat.gcd y (x % y) = Nat.gcd a b) := Lib.hid (by rw [← HG.out, Nat.gcd_comm x y, Nat.gcd_rec y x, Nat.gcd_comm])
      generalize hz : x % y = z at *
      have hw := IntWalk.i64_in (z : Int) (by omega)
      go_wp2
      go_region
      go_wp2
      go_roundw
      case rel => exact ⟨y, z, by omega, by omega, rfl, by first | rfl | (congr 1), by first | exact HD.out | exact HD.out.more 1 | exact (HD.out.more 1).more 1, NG⟩
      case measure => simp [intOf]; omega


theorem slB_no {p q : Int} (h : ¬ (0 ≤ p ∧ 0 ≤ q ∧ p + q ≤ 12)) : slB p q = false := by
  cases e : slB p q
  · rfl
  · exact absurd (by have := slB_iff.1 e; exact ⟨this.1, this.2.1, this.2.2.1⟩) h
theorem slB_gcd {a b : Nat} (h : a + b ≤ 12) : slB a b = decide ((Nat.gcd a b : Int) = 1) := by
  unfold slB
  rw [decide_eq_true (show (0 : Int) ≤ a by omega), decide_eq_true (show (0 : Int) ≤ b by omega), decide_eq_true (show (a : Int) + b ≤ 12 by omega)]
  simp
  constructor <;> intro h <;> omega
theorem below_d {w w' : World} (h : Drawn w w') : Below w.heap.size w w' := h.below _


set_option maxHeartbeats 1000000 in
theorem so_impl (p q : Int) (w : World) (p0 : -9223372036854775808 ≤ p) (p1 : p ≤ 9223372036854775807) (q0 : -9223372036854775808 ≤ q) (q1 : q ≤ 9223372036854775807) :
    Calls Tryd.prog 11 #[.int .i64 p, .int .i64 q] w fun e w' => e = .returned (.bool (slB p q)) ∧ Below w.heap.size w w' := by
  go_enter Tryd.func11, Tryd.ntmps11
  by_cases h1 : p < 0
  · have HF := Lib.hid (slB_no (p := p) (q := q) (by omega))
    have hd : decide (0 ≤ p) = false := by simp; omega
    go_wp2_with fail
    go_ret
    exact ⟨ret_bool HF.out.symm, Below.refl _ _⟩
  · have hd : decide (0 ≤ p) = true := by simp; omega
    by_cases h2 : q < 0
    · have HF := Lib.hid (slB_no (p := p) (q := q) (by omega))
      have hd2 : decide (0 ≤ q) = false := by simp; omega
      go_wp2_with fail
      go_ret
      exact ⟨ret_bool HF.out.symm, Below.refl _ _⟩
    · have hd2 : decide (0 ≤ q) = true := by simp; omega
      by_cases h3 : 12 < p + q
      · have HF := Lib.hid (slB_no (p := p) (q := q) (by omega))
        have hd3 : decide (p ≤ 12 - q) = false := by simp; omega
        go_wp2_with fail
        go_ret
        exact ⟨ret_bool HF.out.symm, Below.refl _ _⟩
      · have hd3 : decide (p ≤ 12 - q) = true := by simp; omega
        obtain ⟨a, rfl⟩ := Int.eq_ofNat_of_zero_le (show 0 ≤ p by omega)
        obtain ⟨b, rfl⟩ := Int.eq_ofNat_of_zero_le (show 0 ≤ q by omega)
        have HF := Lib.hid (slB_gcd (a := a) (b := b) (by omega))
        go_wp2_with fail
        refine (gcd_impl a b _ (by omega) (by omega)).mono ?_
        rintro e w2 ⟨rfl, dr⟩
        have DR := Lib.hid dr; clear dr
        generalize Nat.gcd a b = g at *
        go_wp2_with fail
        go_ret
        exact ⟨ret_bool (by rw [HF.out]; first | rfl | (cases hq : decide ((g : Int) = 1) <;> simp_all)), below_d DR.out⟩
end Go.Proofs.YtpbbfbpggedgpaaDoor.dr

/-
  DirectionWord of the specification and of the program.
-/
namespace Go.Proofs.YtpbbfbpggedgpaaDoor.dr
open Go.ChangeShapes Go.WideShapes Go.ChangeAt Go.RowKit
open Go.Proofs.YtpbbfbpggedgpaaDoor.mem Go.Proofs.YtpbbfbpggedgpaaDoor.ints Go.Proofs.YtpbbfbpggedgpaaDoor.arr Go.Proofs.YtpbbfbpggedgpaaDoor.pm Go.Proofs.YtpbbfbpggedgpaaDoor.permOk
set_option linter.unusedVariables false
set_option maxRecDepth 100000

theorem wd_3 (L : List UInt8) : wd L ++ ⟨#[115, 84, 83]⟩ = wd (L ++ [115, 84, 83]) := by
  apply ByteArray.ext
  simp [wd]
/-- Amid the word. -/
structure Dq (a b x y f : Nat) (L : List UInt8) : Prop where
  sum : x + y ≤ f
  len : L.length + 3 * f ≤ 36
  word : L ++ dwN f x y = dwL a b
theorem Dq.start {a b : Nat} (h : a + b ≤ 12) : Dq a b a b (a + b) [] := ⟨Nat.le_refl _, by simp; omega, rfl⟩
theorem Dq.t {a b x y f : Nat} {L : List UInt8} (h : Dq a b x y f L) (hy : 0 < y) (hx : y < x) : Dq a b (x - y) y (f - 1) (L ++ [116]) := by
  have := h.sum
  refine ⟨by omega, by have := h.len; simp; omega, ?_⟩
  rw [← h.word, dwN_t (by omega) hy hx]; simp
theorem Dq.s3 {a b x y f : Nat} {L : List UInt8} (h : Dq a b x y f L) (hx : 0 < x) (hy : x ≤ y) : Dq a b x (y - x) (f - 1) (L ++ [115, 84, 83]) := by
  have := h.sum
  refine ⟨by omega, by have := h.len; simp; omega, ?_⟩
  rw [← h.word, dwN_S (by omega) hx hy]; simp
theorem Dq.fin {a b x f : Nat} {L : List UInt8} (h : Dq a b x 0 f L) : wd L = wd (dwL a b) := by rw [← h.word, dwN_0, List.append_nil]
theorem Dq.fin0 {a b y f : Nat} {L : List UInt8} (h : Dq a b 0 y f L) (hy : 0 < y) : wd L ++ ⟨#[115]⟩ = wd (dwL a b) := by
  have := h.sum
  rw [← h.word, dwN_s (by omega) hy, wd_snoc]

set_option maxHeartbeats 1000000 in
theorem dw_impl (p q : Int) (w : World) (p0 : -9223372036854775808 ≤ p) (p1 : p ≤ 9223372036854775807) (q0 : -9223372036854775808 ≤ q) (q1 : q ≤ 9223372036854775807) :
    Calls Tryd.prog 6 #[.int .i64 p, .int .i64 q] w fun e w' => e = .returned (.string (dwF p q)) ∧ Below w.heap.size w w' := by
  go_enter Tryd.func6, Tryd.ntmps6
  go_wp2_with fail
  go_step3
  go_wp2_with fail
  refine (so_impl p q _ p0 p1 q0 q1).mono ?_
  rintro e w1 ⟨rfl, b1⟩
  have B1 := Lib.hid b1; clear b1
  cases hq : slB p q
  · have HF := Lib.hid (dwF_no hq); clear hq
    go_wp2_with fail
    (first | rw [Exit.noGoto_ret] | skip)
    go_ret
    exact ⟨ret_str HF.out.symm, B1.out⟩
  · obtain ⟨a, b, rfl, rfl, hab, hg, h1⟩ := slB_nat hq
    have HF := Lib.hid (dwF_yes hq); clear hq p0 p1 q0 q1 hg
    go_wp2
    go_step3
    go_wp2
    go_loop [0, 1, 5, 13] (fun xv yv sv iv => ∃ (x y i : Nat) (L : List UInt8), i ≤ a + b ∧ xv = .int .i64 x ∧ yv = .int .i64 y ∧ sv = .string (wd L) ∧ iv = .int .i64 i ∧ Dq a b x y (a + b - i) L) (fun _ _ _ iv => a + b - (intOf iv).toNat)
    case atStart => exact ⟨a, b, 0, [], Nat.zero_le _, rfl, rfl, rfl, rfl, Dq.start hab⟩
    case round =>
      obtain ⟨x, y, i, L, hi, rfl, rfl, rfl, rfl, hd⟩ := hrel
      have HD := Lib.hid hd
      have hz := wd_size L
      have hsum := hd.sum; have hlen := hd.len
      have x12 : x ≤ 12 := by omega
      have y12 : y ≤ 12 := by omega
      clear hd
      by_cases hlt : i < a + b
      · have hd1 : decide ((i : Int) < a + b) = true := by simp; omega
        by_cases h0 : y = 0
        · subst h0
          have HE := Lib.hid (HD.out.fin.trans HF.out.symm)
          go_wp2
          (first | rw [Exit.noGoto_ret] | skip)
          go_ret
          exact ⟨ret_str HE.out, B1.out⟩
        · by_cases hx : x = 0
          · subst hx
            have HE := Lib.hid ((HD.out.fin0 (by omega)).trans HF.out.symm)
            go_wp2
            (first | rw [Exit.noGoto_ret] | skip)
            go_ret
            exact ⟨ret_str HE.out, B1.out⟩
          · by_cases hlt2 : y < x
            · have ND := Lib.hid (HD.out.t (by omega) hlt2)
              clear hsum
              go_wp2
              go_round
              case rel => exact ⟨x - y, y, i + 1, L ++ [116], by omega, by first | rfl | (congr 1; omega), rfl, congrArg Value.string (wd_snoc L 116), by first | rfl | (congr 1; omega), ND.out⟩
              case measure => simp [intOf]; omega
            · have ND := Lib.hid (HD.out.s3 (by omega) (by omega))
              clear hsum
              go_wp2
              go_round
              case rel => exact ⟨x, y - x, i + 1, L ++ [115, 84, 83], by omega, rfl, by first | rfl | (congr 1; omega), congrArg Value.string (wd_3 L), by first | rfl | (congr 1; omega), ND.out⟩
              case measure => simp [intOf]; omega
      · have hd1 : decide ((i : Int) < a + b) = false := by simp; omega
        have hy0 : y = 0 := by omega
        subst hy0
        have HE := Lib.hid (HD.out.fin.trans HF.out.symm)
        go_wp2
        (first | rw [Exit.noGoto_ret] | skip)
        go_ret
        exact ⟨ret_str HE.out, B1.out⟩
end Go.Proofs.YtpbbfbpggedgpaaDoor.dr
