/-
  Contracts of the laws' same, sorted, lengths.
-/
import Derived.Test.YtjnmgpdjolaleaaSortM
import Derived.Test.YtjnmgpdjolaleaaMg
namespace Go.Proofs.Ytjnmgpdjolaleaa.fns
open Go.ChangeShapes Go.WideShapes Go.ChangeAt Go.RowKit
open Go.Proofs.Ytjnmgpdjolaleaa.mem Go.Proofs.Ytjnmgpdjolaleaa.ints Go.Proofs.Ytjnmgpdjolaleaa.arr Go.Proofs.Ytjnmgpdjolaleaa.pm Go.Proofs.Ytjnmgpdjolaleaa.mat
set_option linter.unusedVariables false

set_option maxHeartbeats 400000 in
theorem same_any (A : Option Addr) (n c : Nat) (B : Option Addr) (m d : Nat) (xs ys : List Int) (h1 h2 : Nat) (w : World)
    (hx : Rd w h1 A n (V xs)) (hy : Rd w h2 B m (V ys)) (hn : n ≤ maxLen) (hm : m ≤ maxLen) :
    Calls Try.prog 19 #[.slice A n c, .slice B m d] w fun e w' => e = .returned (.bool (eqi xs ys)) ∧ Drawn w w' := by
  unfold maxLen at hn hm
  have lx : xs.length = n := by simpa [V] using hx.1
  have ly : ys.length = m := by simpa [V] using hy.1
  have LX := Lib.hid lx; have LY := Lib.hid ly; clear lx ly
  have HX := Lib.hid hx; have HY := Lib.hid hy; clear hx hy
  by_cases hnm : n = m
  · obtain rfl : m = n := hnm.symm
    clear hnm
    go_enter Try.func19, Try.ntmps19
    go_wp2
    go_loopw [14] (fun i wr => ∃ k : Nat, k ≤ m ∧ i = .int .i64 k ∧ Drawn w wr ∧ Same xs ys k) (fun i _ => m - (intOf i).toNat)
    case atStart => exact ⟨0, Nat.zero_le _, rfl, ⟨0, rfl⟩, fun j hj => by omega⟩
    case round =>
      obtain ⟨k, hk, rfl, hdr, hsame⟩ := hrel
      have HS := Lib.hid hsame; have HD := Lib.hid hdr; clear hsame hdr
      by_cases hlt : k < m
      · obtain ⟨g, off, u, rfl, _, hxu, hcx⟩ := HX.out.at_ hlt
        obtain ⟨g', off', u', rfl, _, hyu, hcy⟩ := HY.out.at_ hlt
        obtain ⟨s, hxs, rfl⟩ := V_at hxu
        obtain ⟨t, hyt, rfl⟩ := V_at hyu
        rw [← HD.out.cell] at hcx hcy
        have HXS := Lib.hid hxs; have HYT := Lib.hid hyt; clear hxs hyt hxu hyu
        by_cases hst : s = t
        · subst hst
          go_wp2
          go_roundw
          case rel => exact ⟨k + 1, by omega, by go_num, HD.out, HS.out.step HXS.out HYT.out⟩
          case measure => simp [intOf]; omega
        · have hb : (s != t) = true := by simpa using hst
          have HST := Lib.hid hst; clear hst
          go_wp2
          go_ret
          exact ⟨ret_bool (eqi_no HXS.out HYT.out HST.out).symm, HD.out⟩
      · obtain rfl : k = m := by omega
        go_wp2
        go_ret
        exact ⟨ret_bool (eqi_yes LX.out LY.out HS.out).symm, HD.out⟩
  · have hb : ((n : Int) != (m : Int)) = true := by simp; omega
    have HB : eqi xs ys = false := eqi_len (by rw [LX.out, LY.out]; exact hnm)
    have HB := Lib.hid HB
    clear hnm
    go_enter Try.func19, Try.ntmps19
    go_wp2
    go_ret
    exact ⟨ret_bool HB.out.symm, 0, rfl⟩


theorem Grows.set_ {w wr : World} {b cc : Nat} {l : List Int} (h : Grows w wr (.slice (some ⟨b, 0, none⟩) l.length cc) l) (k : Nat) (z : Int) : Grows w (wr.setCell ⟨b, k, none⟩ (.int .i64 z)) (.slice (some ⟨b, 0, none⟩) (l.set k z).length cc) (l.set k z) := by
  have hb := h.own.lt b rfl
  have := (h.own.stored k (.int .i64 z)).1
  rw [V_set] at this
  exact ⟨by simpa using this, h.below.setCell hb.1 _⟩

set_option maxHeartbeats 1000000 in
theorem sorted_any (A : Option Addr) (n c : Nat) (xs : List Int) (hi : Nat) (w : World) (hx : Rd w hi A n (V xs)) (hn : n ≤ 1048576) :
    Calls Try.prog 49 #[.slice A n c] w (Gives (sortD xs) w) := by
  obtain ⟨i0, hi0, hz0, hz1, hz2⟩ := info_parts infoI
  have lx : xs.length = n := by simpa [V] using hx.1
  have LX := Lib.hid lx; clear lx
  have HX := Lib.hid hx; clear hx
  go_enter Try.func49, Try.ntmps49
  go_wp2
  go_loopw [3, 10] (fun v i wr => ∃ j : Nat, j ≤ n ∧ i = .int .i64 j ∧ Grows w wr v (sortD (xs.take j))) (fun _ i _ => n - (intOf i).toNat)
  case atStart => exact ⟨0, Nat.zero_le _, rfl, Grows.empty w⟩
  case round =>
    obtain ⟨j, hj, rfl, hm⟩ := hrel
    obtain ⟨wo, rfl⟩ : ∃ wo : World, wo = wr := ⟨_, rfl⟩
    obtain ⟨C, cc, rfl⟩ := hm.form
    have HLN : Hid ((sortD (xs.take j)).length = j) := Lib.hid (by rw [sortD_len]; have := LX.out; simp; omega)
    have HR := Lib.hid hm; clear hm
    by_cases hlt : j < n
    · obtain ⟨g, off, u, rfl, hgl, hxu, hcx⟩ := HX.out.at_ hlt
      obtain ⟨x, hxs, rfl⟩ := V_at hxu
      have hgw : g < w.heap.size := Nat.lt_of_lt_of_le hgl HX.out.2.1
      rw [← HR.out.below.cell (p := ⟨g, off + j, none⟩) hgw] at hcx
      have NX : Hid (sortD (xs.take (j + 1)) = insD x (sortD (xs.take j))) := Lib.hid (by rw [List.take_add_one, hxs]; exact sortD_snoc _ _)
      have hsz := HR.out.below.size
      clear hxu hxs
      generalize sortD (xs.take j) = l at *
      have hl : l.length ≤ 1048576 := by rw [HLN.out]; omega
      go_wp2_with (at_builtin; refine wpList_append_one wo _ _ rfl _ _ 24 rfl w.heap.size 3 i0 _ 8 Try.underlying24 hi0 hz0 hz1 hz2 rfl _ _ _ rfl HR.out.own rfl rfl ?c4 (by decide) hsz ?_)
      case c4 => omega
      intro v' w' ho hg
      have G1 := HR.out.next ho rfl hg
      rw [← ins_end] at G1
      clear ho hg HR hcx
      obtain ⟨C', cc', rfl⟩ := own_form G1.own
      obtain ⟨b, rfl⟩ : ∃ b, C' = some ⟨b, 0, none⟩ := by
        rcases G1.own.2 with ⟨h0, hn0⟩ | ⟨b, cap, cur, q1, _⟩
        · simp [ins_end] at hn0
        · injection q1 with q1; exact ⟨b, q1⟩
      rw [ins_len _ _ (Nat.le_refl _)]
      have HG := Lib.hid G1; clear G1
      go_wp2
      go_loopw [6] (fun i wr => ∃ (k : Nat) (y : Int), k ≤ l.length ∧ i = .int .i64 k ∧ Grows w wr (.slice (some ⟨b, 0, none⟩) (ins y l k).length cc') (ins y l k) ∧ Hid (posD x l k = posD x l l.length)) (fun i _ => (intOf i).toNat)
      case atStart => exact ⟨l.length, 0, Nat.le_refl _, by go_num, HG.out, Lib.hid rfl⟩
      case round =>
        obtain ⟨k, y, hk, rfl, hg, HPOS⟩ := hrel
        have IL := Lib.hid (ins_len y l hk)
        have GG := Lib.hid hg; clear hg HG
        have fk := GG.out.own.frozenAt k
        have hck : wr.cell? ⟨b, k, none⟩ = some (.int .i64 ((ins y l k).getD k 0)) := by rw [GG.out.own.cellAt k (by rw [IL.out]; omega)]; exact V_getD (by rw [IL.out]; omega)
        cases k with
        | zero =>
          have G2 : Hid (Grows w (wr.setCell ⟨b, 0, none⟩ (.int .i64 x)) (.slice (some ⟨b, 0, none⟩) (l.length + 1) cc') (insD x l)) := Lib.hid (by
            have := GG.out.set_ 0 x
            rw [ins_set _ _ _ hk] at this
            unfold insD
            rw [← HPOS.out]
            rw [ins_len _ _ hk] at this
            exact this)
          go_wp2
          go_roundw
          case rel => exact ⟨j + 1, by omega, by go_num, by rw [NX.out]; exact G2.out⟩
          case measure => simp [intOf]; omega
        | succ k =>
          have hcl : wr.cell? ⟨b, k, none⟩ = some (.int .i64 (l.getD k 0)) := by rw [GG.out.own.cellAt k (by rw [IL.out]; omega), V_getD (by rw [IL.out]; omega), ins_at _ _ (by omega) hk]
          by_cases hd : l.getD k 0 < x
          · have G2 := GG.out.set_ (k + 1) (l.getD k 0)
            rw [ins_move _ _ (by omega)] at G2
            have HP2 : Hid (posD x l k = posD x l l.length) := Lib.hid (by rw [← HPOS.out, posD, if_pos hd])
            generalize l.getD k 0 = z at *
            have HG2 := Lib.hid G2; clear G2
            go_wp2
            go_roundw
            case rel => exact ⟨k, z, by omega, by go_num, HG2.out, HP2⟩
            case measure => simp [intOf]
          · have G2 : Hid (Grows w (wr.setCell ⟨b, k + 1, none⟩ (.int .i64 x)) (.slice (some ⟨b, 0, none⟩) (l.length + 1) cc') (insD x l)) := Lib.hid (by
              have := GG.out.set_ (k + 1) x
              rw [ins_set _ _ _ hk] at this
              unfold insD
              rw [← HPOS.out, posD, if_neg hd]
              rw [ins_len _ _ hk] at this
              exact this)
            generalize l.getD k 0 = z at *
            have hdd : decide (z < x) = false := by simp; omega
            clear hd
            go_wp2
            go_roundw
            case rel => exact ⟨j + 1, by omega, by go_num, by rw [NX.out]; exact G2.out⟩
            case measure => simp [intOf]; omega
    · obtain rfl : j = n := by omega
      go_wp2
      go_ret
      have := HR.out
      rw [List.take_of_length_le (by rw [LX.out]; exact Nat.le_refl _)] at this ⊢
      exact this.gives

def lensF (xss : List (List Int)) : List Int := xss.map fun xs => (xs.length : Int)
set_option maxHeartbeats 1000000 in
theorem lengths_any (A : Option Addr) (n c : Nat) (xss : List (List Int)) (lo hi : Nat) (w : World) (hx : Mat w lo hi A n xss) (hn : n ≤ 1048576) (tx : tot xss ≤ 1048576) :
    Calls Try.prog 20 #[.slice A n c] w (Gives (sortD (lensF xss)) w) := by
  obtain ⟨i0, hi0, hz0, hz1, hz2⟩ := info_parts infoI
  have LX := Lib.hid hx.1
  have HX := Lib.hid hx; clear hx
  go_enter Try.func20, Try.ntmps20
  go_wp2
  go_loopw [3, 9] (fun v i wr => ∃ j : Nat, j ≤ n ∧ i = .int .i64 j ∧ Grows w wr v (lensF (xss.take j))) (fun _ i _ => n - (intOf i).toNat)
  case atStart => exact ⟨0, Nat.zero_le _, rfl, Grows.empty w⟩
  case round =>
    obtain ⟨j, hj, rfl, hm⟩ := hrel
    obtain ⟨C, cc, rfl⟩ := hm.form
    have HLN : Hid ((lensF (xss.take j)).length = j) := Lib.hid (by have := LX.out; simp [lensF]; omega)
    have HR := Lib.hid hm; clear hm
    by_cases hlt : j < n
    · obtain ⟨G, off, A1, c1, xs, l, u, rfl, hxk, hcx, rx, _⟩ := (HX.out.keep HR.out.below HX.out.2.1).at_ hlt
      have NX : Hid (lensF (xss.take (j + 1)) = lensF (xss.take j) ++ [(xs.length : Int)]) := Lib.hid (by rw [List.take_add_one, hxk]; simp [lensF])
      have hsz := HR.out.below.size
      have b1 := tot_row hxk
      clear hxk rx
      generalize lensF (xss.take j) = l1 at *
      have hl : l1.length ≤ 1048576 := by rw [HLN.out]; omega
      go_wp2_with (at_builtin; refine wpList_append_one wr _ _ rfl _ _ 24 rfl w.heap.size 3 i0 _ 8 Try.underlying24 hi0 hz0 hz1 hz2 rfl _ _ _ rfl HR.out.own rfl rfl ?c4 (by decide) hsz ?_)
      case c4 => omega
      intro v' w' ho hg
      have HN : Hid (Grows w w' v' (lensF (xss.take (j + 1)))) := Lib.hid (by rw [NX.out]; exact HR.out.next ho rfl hg)
      clear ho hg HR hcx
      go_wp2
      go_roundw
      case rel => exact ⟨j + 1, by omega, by go_num, HN.out⟩
      case measure => simp [intOf]; omega
    · obtain rfl : j = n := by omega
      have e : xss.take j = xss := List.take_of_length_le (by rw [LX.out]; exact Nat.le_refl _)
      rw [e] at HR HLN ⊢
      clear e
      go_wp2_with fail
      refine (sorted_any C _ cc (lensF xss) _ _ (Row.of_own HR.out.own).rd (by rw [HLN.out]; exact hn)).mono ?_
      rintro e w2 hg
      obtain ⟨v, rfl, ho, hb⟩ := gives_later HR.out.below hg
      have HOW := Lib.hid ho; have HB := Lib.hid hb; clear ho hb hg
      go_wp2_with fail
      go_ret
      exact ⟨v, rfl, HOW.out, HB.out⟩
end Go.Proofs.Ytjnmgpdjolaleaa.fns
