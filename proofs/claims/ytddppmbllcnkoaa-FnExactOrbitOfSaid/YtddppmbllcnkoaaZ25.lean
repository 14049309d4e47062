import Derived.Test.YtddppmbllcnkoaaZ04
import Derived.Test.YtddppmbllcnkoaaZ24
/-
  The laws' helpers on slices of surfaces: markSurfaceS, heldSurfaceS.
-/
namespace Go.Proofs.Ytddppmbllcnkoaa.orb
open Go.ChangeShapes Go.WideShapes Go.ChangeAt Go.RowKit
open Go.Proofs.Ytddppmbllcnkoaa.mem Go.Proofs.Ytddppmbllcnkoaa.ints Go.Proofs.Ytddppmbllcnkoaa.arr Go.Proofs.Ytddppmbllcnkoaa.pm Go.Proofs.Ytddppmbllcnkoaa.sf Go.Proofs.Ytddppmbllcnkoaa.mat
set_option linter.unusedVariables false
set_option maxRecDepth 100000

set_option maxHeartbeats 2000000 in
theorem markL_any (A : Option Addr) (n c : Nat) (xss : List (List Int)) (lo hi : Nat) (k : Int) (w : World)
    (hx : Mat w lo hi A (n * 2) xss) (hn : n ≤ 1048576) (h1 : 1 ≤ k) (h2 : k ≤ 1048576000) (tx : tot xss ≤ 1048576) :
    Calls sqp.prog 34 #[.slice A n c, .int .i64 k] w fun e w' => e = .returned (.int .i64 (k + tot xss)) ∧ Mat w' lo hi A (n * 2) (marksm k xss) ∧ Out lo hi w w' := by
  have LX := Lib.hid hx.1
  have HX := Lib.hid hx; clear hx
  go_enter sqp.func34, sqp.ntmps34
  go_wp2
  go_loopw [1, 5] (fun q i wr => ∃ j : Nat, j ≤ n ∧ q = .int .i64 (k + tot (xss.take (j * 2))) ∧ i = .int .i64 j ∧ MarkRelM A (n * 2) lo hi k xss w wr (j * 2)) (fun _ i _ => n - (intOf i).toNat)
  case atStart => exact ⟨0, Nat.zero_le _, by simp [tot], rfl, by rw [Nat.zero_mul, mix_zero]; exact HX.out, Out.refl _ _ _⟩
  case round =>
    obtain ⟨j, hj, rfl, rfl, hm⟩ := hrel
    have HM := Lib.hid hm; clear hm
    have hle := tot_le xss (j * 2)
    by_cases hlt : j < n
    · obtain ⟨G, off, A1, c1, xs, l, u, rfl, hxk, hcx, rx, hset⟩ := HM.out.1.at_ (k := j * 2) (by omega)
      rw [mix_at (by rw [LX.out]; omega)] at hxk
      have HXK := Lib.hid hxk; have HS := Lib.hid hset; have RX := Lib.hid rx
      have b1 := tot_row hxk
      have TT := Lib.hid (tot_take hxk)
      clear hxk hset rx
      go_wp2_with fail
      refine (mark_any A1 _ c1 (V xs) l u (k + tot (xss.take (j * 2))) _ RX.out (by omega) (by omega) (by omega)).mono ?_
      rintro e w1 ⟨rfl, r1, o1⟩
      have HN0 := HS.out w1 (Marks (k + tot (xss.take (j * 2))) xs.length) (marks_len _ _) r1 o1
      rw [mix_step HXK.out] at HN0
      have HN := Lib.hid HN0
      clear r1 o1 HN0 hcx RX HS
      have hle2 := tot_le xss (j * 2 + 1)
      rw [TT.out] at hle2
      obtain ⟨G', off', A2, c2, ys, l2, u2, eA, hyk, hcy, ry, hset⟩ := HN.out.1.at_ (k := j * 2 + 1) (by omega)
      simp at eA
      obtain ⟨rfl, rfl⟩ := eA
      rw [mix_at (by rw [LX.out]; omega)] at hyk
      have HYK := Lib.hid hyk; have HS := Lib.hid hset; have RY := Lib.hid ry
      have b2 := tot_row hyk
      have TU := Lib.hid (tot_take hyk)
      rw [← Nat.add_assoc] at hcy
      clear hyk hset ry
      go_wp2_with fail
      refine (mark_any A2 _ c2 (V ys) l2 u2 (k + tot (xss.take (j * 2)) + xs.length) _ RY.out (by omega) (by omega) (by omega)).mono ?_
      rintro e w2 ⟨rfl, r2, o2⟩
      have TE : Hid (k + (tot (xss.take (j * 2)) : Int) + (xs.length : Int) = k + (tot (xss.take (j * 2 + 1)) : Int)) := Lib.hid (by rw [TT.out]; omega)
      have HN2 : Hid (Mat w2 lo hi (some ⟨G, off, none⟩) (n * 2) (mix k xss ((j + 1) * 2)) ∧ Out lo hi w1 w2) := Lib.hid (by
        rw [TE.out] at r2
        have := HS.out w2 (Marks (k + tot (xss.take (j * 2 + 1))) ys.length) (marks_len _ _) r2 o2
        rw [mix_step HYK.out] at this
        rw [show (j + 1) * 2 = j * 2 + 1 + 1 by omega]
        exact this)
      clear r2 o2 hcy RY HS
      go_wp2_with fail
      go_roundw
      case rel =>
        refine ⟨j + 1, by omega, ?_, by go_num, HN2.out.1, (HM.out.2.trans HN.out.2).trans HN2.out.2⟩
        rw [show (j + 1) * 2 = j * 2 + 1 + 1 by omega, TU.out, TT.out]
        go_num
      case measure => simp [intOf]; omega
    · obtain rfl : j = n := by omega
      have TT : Hid (tot (xss.take (j * 2)) = tot xss) := Lib.hid (by rw [List.take_of_length_le (by rw [LX.out]; exact Nat.le_refl _)])
      go_wp2
      go_ret
      refine ⟨by rw [← TT.out]; rfl, ?_, HM.out.2⟩
      rw [← mix_all k xss LX.out]
      exact HM.out.1

set_option maxHeartbeats 2000000 in
theorem heldL_any (A : Option Addr) (n c : Nat) (xss : List (List Int)) (lo hi : Nat) (k : Int) (w : World)
    (hx : Mat w lo hi A (n * 2) (marksm k xss)) (hn : n ≤ 1048576) (h1 : 1 ≤ k) (h2 : k ≤ 1048576000) (tx : tot xss ≤ 1048576) :
    Calls sqp.prog 35 #[.slice A n c, .int .i64 k] w fun e w' => e = .returned (.int .i64 (k + tot xss)) ∧ Drawn w w' := by
  have LX : Hid (xss.length = n * 2) := Lib.hid (by have := hx.1; rw [marksm_len] at this; exact this)
  have HX := Lib.hid hx; clear hx
  go_enter sqp.func35, sqp.ntmps35
  go_wp2
  go_loopw [1, 5] (fun q i wr => ∃ j : Nat, j ≤ n ∧ q = .int .i64 (k + tot (xss.take (j * 2))) ∧ i = .int .i64 j ∧ Drawn w wr) (fun _ i _ => n - (intOf i).toNat)
  case atStart => exact ⟨0, Nat.zero_le _, by simp [tot], rfl, 0, rfl⟩
  case round =>
    obtain ⟨j, hj, rfl, rfl, hb⟩ := hrel
    have HB := Lib.hid hb; clear hb
    have hle := tot_le xss (j * 2)
    by_cases hlt : j < n
    · have hxj : xss[j * 2]? = some (xss[j * 2]'(by rw [LX.out]; omega)) := List.getElem?_eq_getElem _
      have hyj : xss[j * 2 + 1]? = some (xss[j * 2 + 1]'(by rw [LX.out]; omega)) := List.getElem?_eq_getElem _
      generalize xss[j * 2]'(by rw [LX.out]; omega) = xs at hxj
      generalize xss[j * 2 + 1]'(by rw [LX.out]; omega) = ys at hyj
      obtain ⟨G, off, A1, c1, xs', l, u, rfl, hxk, hcx, rx, _⟩ := HX.out.at_ (k := j * 2) (by omega)
      rw [marksm_at xss k _ xs hxj] at hxk
      obtain rfl := Option.some.inj hxk
      rw [marks_len] at rx hcx
      obtain ⟨G', off', A2, c2, ys', l2, u2, eA, hyk, hcy, ry, _⟩ := HX.out.at_ (k := j * 2 + 1) (by omega)
      simp at eA
      obtain ⟨rfl, rfl⟩ := eA
      rw [marksm_at xss k _ ys hyj] at hyk
      obtain rfl := Option.some.inj hyk
      rw [marks_len] at ry hcy
      rw [← HB.out.cell] at hcx hcy
      rw [← Nat.add_assoc] at hcy
      have RX : Hid (Row wr l u A1 xs.length (V (Marks (k + tot (xss.take (j * 2))) xs.length))) := Lib.hid (by obtain ⟨q, rfl⟩ := HB.out; exact rx)
      have TT := Lib.hid (tot_take hxj)
      have TU := Lib.hid (tot_take hyj)
      have TE : Hid (k + (tot (xss.take (j * 2 + 1)) : Int) = k + (tot (xss.take (j * 2)) : Int) + (xs.length : Int)) := Lib.hid (by rw [TT.out]; omega)
      have RY : Hid (Row w l2 u2 A2 ys.length (V (Marks (k + tot (xss.take (j * 2)) + xs.length) ys.length))) := Lib.hid (by rw [← TE.out]; exact ry)
      have b1 := tot_row hxj; have b2 := tot_row hyj
      have hle2 := tot_le xss (j * 2 + 1)
      rw [TT.out] at hle2
      clear hxk hyk rx ry hxj hyj
      go_wp2_with fail
      refine (held_any A1 _ c1 l u (k + tot (xss.take (j * 2))) _ RX.out (by omega) (by omega) (by omega)).mono ?_
      rintro e w1 ⟨rfl, d1⟩
      have HN := Lib.hid (drawn_trans HB.out d1)
      have hcy1 : w1.cell? ⟨G, off + j * 2 + 1, none⟩ = some (.slice A2 ys.length c2) := by rw [d1.cell]; exact hcy
      have RY1 : Hid (Row w1 l2 u2 A2 ys.length (V (Marks (k + tot (xss.take (j * 2)) + xs.length) ys.length))) := Lib.hid (by obtain ⟨q, rfl⟩ := HN.out; exact RY.out)
      clear d1 hcx hcy RX RY
      go_wp2_with fail
      refine (held_any A2 _ c2 l2 u2 (k + tot (xss.take (j * 2)) + xs.length) _ RY1.out (by omega) (by omega) (by omega)).mono ?_
      rintro e w2 ⟨rfl, d2⟩
      have HN2 := Lib.hid (drawn_trans HN.out d2)
      clear d2 hcy1 RY1
      go_wp2_with fail
      go_roundw
      case rel =>
        refine ⟨j + 1, by omega, ?_, by go_num, HN2.out⟩
        rw [show (j + 1) * 2 = j * 2 + 1 + 1 by omega, TU.out, TT.out]
        go_num
      case measure => simp [intOf]; omega
    · obtain rfl : j = n := by omega
      have TT : Hid (tot (xss.take (j * 2)) = tot xss) := Lib.hid (by rw [List.take_of_length_le (by rw [LX.out]; exact Nat.le_refl _)])
      go_wp2
      go_ret
      exact ⟨by rw [← TT.out]; rfl, HB.out⟩
end Go.Proofs.Ytddppmbllcnkoaa.orb

/-
  What the laws of orbits ask of sizes.
-/
namespace Go.Proofs.Ytddppmbllcnkoaa.orb
open Go.ChangeShapes Go.WideShapes Go.ChangeAt Go.RowKit
open Go.Proofs.Ytddppmbllcnkoaa.mem Go.Proofs.Ytddppmbllcnkoaa.ints Go.Proofs.Ytddppmbllcnkoaa.arr Go.Proofs.Ytddppmbllcnkoaa.pm Go.Proofs.Ytddppmbllcnkoaa.sf Go.Proofs.Ytddppmbllcnkoaa.mat
set_option linter.unusedVariables false
set_option maxRecDepth 100000
theorem orbL_law (r u : List Int) : (orbL r u).length ≤ 1048576 ∧ tot (flat (orbL r u)) ≤ 1048576 ∧ ∀ s ∈ orbL r u, s.1.length ≤ 1048576 ∧ s.2.length ≤ 1048576 := by
  obtain ⟨l, b⟩ := orbL_bnd (r := r) (u := u)
  have t := flat_tot (N := 24) (L := orbL r u) b
  exact ⟨by omega, by omega, fun s hs => by have := b s hs; omega⟩
end Go.Proofs.Ytddppmbllcnkoaa.orb
