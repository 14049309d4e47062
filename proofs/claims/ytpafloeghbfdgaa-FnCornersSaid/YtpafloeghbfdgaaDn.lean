/-
  The model's descending order (as the laws' own): contracts of l04Down and l04Lengths.
-/
import Derived.Test.YtpafloeghbfdgaaSort
namespace Go.Proofs.Ytpafloeghbfdgaa.fns
open Go.ChangeShapes Go.WideShapes Go.ChangeAt Go.RowKit
open Go.Proofs.Ytpafloeghbfdgaa.mem Go.Proofs.Ytpafloeghbfdgaa.ints Go.Proofs.Ytpafloeghbfdgaa.arr Go.Proofs.Ytpafloeghbfdgaa.pm Go.Proofs.Ytpafloeghbfdgaa.mat
set_option linter.unusedVariables false
set_option maxRecDepth 100000

set_option maxHeartbeats 1000000 in
theorem down_any (A : Option Addr) (n c : Nat) (xs : List Int) (hi : Nat) (w : World) (hx : Rd w hi A n (V xs)) (hn : n ≤ 1048576) :
    Calls Try.prog 97 #[.slice A n c] w (Gives (sortD xs) w) := by
  obtain ⟨i0, hi0, hz0, hz1, hz2⟩ := info_parts infoI
  have lx : xs.length = n := by simpa [V] using hx.1
  have LX := Lib.hid lx; clear lx
  have HX := Lib.hid hx; clear hx
  go_enter Try.func97, Try.ntmps97
  go_wp2
  go_loopw [3, 10] (fun v i wr => ∃ j : Nat, j ≤ n ∧ i = .int .i64 j ∧ Grows w wr v (sortD (xs.take j))) (fun _ i _ => n - (intOf i).toNat)
  case atStart => exact ⟨0, Nat.zero_le _, rfl, Grows.empty w⟩
  case round =>
    obtain ⟨j, hj, rfl, hm⟩ := hrel
    obtain ⟨wo, rfl⟩ : ∃ wo : World, wo = wr := ⟨_, rfl⟩
    obtain ⟨C, cc, rfl⟩ := hm.form
    have HLN : Hid ((sortD (xs.take j)).length = j) := Lib.hid (by rw [sortD_len]; have := LX.out; simp; omega)
    have HR := Lib.hid hm; clear hm
    by_cases hlt : j < n
    · obtain ⟨g, off, u, rfl, hgl, hxu, hcx⟩ := HX.out.at_ hlt
      obtain ⟨x, hxs, rfl⟩ := V_at hxu
      have hgw : g < w.heap.size := Nat.lt_of_lt_of_le hgl HX.out.2.1
      rw [← HR.out.below.cell (p := ⟨g, off + j, none⟩) hgw] at hcx
      have NX : Hid (sortD (xs.take (j + 1)) = insD x (sortD (xs.take j))) := Lib.hid (by rw [List.take_add_one, hxs]; exact sortD_snoc _ _)
      have hsz := HR.out.below.size
      clear hxu hxs
      generalize sortD (xs.take j) = l at *
      have hl : l.length ≤ 1048576 := by rw [HLN.out]; omega
      go_wp2_with (at_builtin; refine wpList_append_one wo _ _ rfl _ _ 23 rfl w.heap.size 3 i0 _ 8 Try.underlying23 hi0 hz0 hz1 hz2 rfl _ _ _ rfl HR.out.own rfl rfl ?c4 (by decide) hsz ?_)
      case c4 => omega
      intro v' w' ho hg
      have G1 := HR.out.next ho rfl hg
      rw [← ins_end] at G1
      clear ho hg HR hcx
      obtain ⟨C', cc', rfl⟩ := own_form G1.own
      obtain ⟨b, rfl⟩ : ∃ b, C' = some ⟨b, 0, none⟩ := by
        rcases G1.own.2 with ⟨h0, hn0⟩ | ⟨b, cap, cur, q1, _⟩
        · simp [ins_end] at hn0
        · injection q1 with q1; exact ⟨b, q1⟩
      rw [ins_len _ _ (Nat.le_refl _)]
      have HG := Lib.hid G1; clear G1
      go_wp2
      go_loopw [6] (fun i wr => ∃ (k : Nat) (y : Int), k ≤ l.length ∧ i = .int .i64 k ∧ Grows w wr (.slice (some ⟨b, 0, none⟩) (ins y l k).length cc') (ins y l k) ∧ Hid (posD x l k = posD x l l.length)) (fun i _ => (intOf i).toNat)
      case atStart => exact ⟨l.length, 0, Nat.le_refl _, by go_num, HG.out, Lib.hid rfl⟩
      case round =>
        obtain ⟨k, y, hk, rfl, hg, HPOS⟩ := hrel
        have IL := Lib.hid (ins_len y l hk)
        have GG := Lib.hid hg; clear hg HG
        have fk := GG.out.own.frozenAt k
        have hck : wr.cell? ⟨b, k, none⟩ = some (.int .i64 ((ins y l k).getD k 0)) := by rw [GG.out.own.cellAt k (by rw [IL.out]; omega)]; exact V_getD (by rw [IL.out]; omega)
        cases k with
        | zero =>
          have G2 : Hid (Grows w (wr.setCell ⟨b, 0, none⟩ (.int .i64 x)) (.slice (some ⟨b, 0, none⟩) (l.length + 1) cc') (insD x l)) := Lib.hid (by
            have := GG.out.set_ 0 x
            rw [ins_set _ _ _ hk] at this
            unfold insD
            rw [← HPOS.out]
            rw [ins_len _ _ hk] at this
            exact this)
          go_wp2
          go_roundw
          case rel => exact ⟨j + 1, by omega, by go_num, by rw [NX.out]; exact G2.out⟩
          case measure => simp [intOf]; omega
        | succ k =>
          have hcl : wr.cell? ⟨b, k, none⟩ = some (.int .i64 (l.getD k 0)) := by rw [GG.out.own.cellAt k (by rw [IL.out]; omega), V_getD (by rw [IL.out]; omega), ins_at _ _ (by omega) hk]
          by_cases hd : l.getD k 0 < x
          · have G2 := GG.out.set_ (k + 1) (l.getD k 0)
            rw [ins_move _ _ (by omega)] at G2
            have HP2 : Hid (posD x l k = posD x l l.length) := Lib.hid (by rw [← HPOS.out, posD, if_pos hd])
            generalize l.getD k 0 = z at *
            have HG2 := Lib.hid G2; clear G2
            go_wp2
            go_roundw
            case rel => exact ⟨k, z, by omega, by go_num, HG2.out, HP2⟩
            case measure => simp [intOf]
          · have G2 : Hid (Grows w (wr.setCell ⟨b, k + 1, none⟩ (.int .i64 x)) (.slice (some ⟨b, 0, none⟩) (l.length + 1) cc') (insD x l)) := Lib.hid (by
              have := GG.out.set_ (k + 1) x
              rw [ins_set _ _ _ hk] at this
              unfold insD
              rw [← HPOS.out, posD, if_neg hd]
              rw [ins_len _ _ hk] at this
              exact this)
            generalize l.getD k 0 = z at *
            have hdd : decide (z < x) = false := by simp; omega
            clear hd
            go_wp2
            go_roundw
            case rel => exact ⟨j + 1, by omega, by go_num, by rw [NX.out]; exact G2.out⟩
            case measure => simp [intOf]; omega
    · obtain rfl : j = n := by omega
      go_wp2
      go_ret
      have := HR.out
      rw [List.take_of_length_le (by rw [LX.out]; exact Nat.le_refl _)] at this ⊢
      exact this.gives

set_option maxHeartbeats 1000000 in
theorem lens_spec (A : Option Addr) (n c : Nat) (xss : List (List Int)) (lo hi : Nat) (w : World) (hx : Mat w lo hi A n xss) (hn : n ≤ 1048576) (tx : tot xss ≤ 1048576) :
    Calls Try.prog 69 #[.slice A n c] w (Gives (sortD (lensF xss)) w) := by
  obtain ⟨i0, hi0, hz0, hz1, hz2⟩ := info_parts infoI
  have LX := Lib.hid hx.1
  have HX := Lib.hid hx; clear hx
  go_enter Try.func69, Try.ntmps69
  go_wp2
  go_loopw [3, 9] (fun v i wr => ∃ j : Nat, j ≤ n ∧ i = .int .i64 j ∧ Grows w wr v (lensF (xss.take j))) (fun _ i _ => n - (intOf i).toNat)
  case atStart => exact ⟨0, Nat.zero_le _, rfl, Grows.empty w⟩
  case round =>
    obtain ⟨j, hj, rfl, hm⟩ := hrel
    obtain ⟨C, cc, rfl⟩ := hm.form
    have HLN : Hid ((lensF (xss.take j)).length = j) := Lib.hid (by have := LX.out; simp [lensF]; omega)
    have HR := Lib.hid hm; clear hm
    by_cases hlt : j < n
    · obtain ⟨G, off, A1, c1, xs, l, u, rfl, hxk, hcx, rx, _⟩ := (HX.out.keep HR.out.below HX.out.2.1).at_ hlt
      have NX : Hid (lensF (xss.take (j + 1)) = lensF (xss.take j) ++ [(xs.length : Int)]) := Lib.hid (by rw [List.take_add_one, hxk]; simp [lensF])
      have hsz := HR.out.below.size
      have b1 := tot_row hxk
      clear hxk rx
      generalize lensF (xss.take j) = l1 at *
      have hl : l1.length ≤ 1048576 := by rw [HLN.out]; omega
      go_wp2_with (at_builtin; refine wpList_append_one wr _ _ rfl _ _ 23 rfl w.heap.size 3 i0 _ 8 Try.underlying23 hi0 hz0 hz1 hz2 rfl _ _ _ rfl HR.out.own rfl rfl ?c4 (by decide) hsz ?_)
      case c4 => omega
      intro v' w' ho hg
      have HN : Hid (Grows w w' v' (lensF (xss.take (j + 1)))) := Lib.hid (by rw [NX.out]; exact HR.out.next ho rfl hg)
      clear ho hg HR hcx
      go_wp2
      go_roundw
      case rel => exact ⟨j + 1, by omega, by go_num, HN.out⟩
      case measure => simp [intOf]; omega
    · obtain rfl : j = n := by omega
      have e : xss.take j = xss := List.take_of_length_le (by rw [LX.out]; exact Nat.le_refl _)
      rw [e] at HR HLN ⊢
      clear e
      go_wp2_with fail
      refine (down_any C _ cc (lensF xss) _ _ (Row.of_own HR.out.own).rd (by rw [HLN.out]; exact hn)).mono ?_
      rintro e w2 hg
      obtain ⟨v, rfl, ho, hb⟩ := gives_later HR.out.below hg
      have HOW := Lib.hid ho; have HB := Lib.hid hb; clear ho hb hg
      go_wp2_with fail
      go_ret
      exact ⟨v, rfl, HOW.out, HB.out⟩
end Go.Proofs.Ytpafloeghbfdgaa.fns
