/-
  Contract of spec.l02Reach.
-/
import Derived.Test.YtkkklpchkkdhfaaMB
import Derived.Test.YtkkklpchkkdhfaaMA
import Derived.Test.YtkkklpchkkdhfaaMem2
import Derived.RegionTactic
import Derived.BigRegion
namespace Go.Proofs.Ytkkklpchkkdhfaa.fns
open Go.ChangeShapes Go.WideShapes Go.ChangeAt Go.RowKit
open Go.Proofs.Ytkkklpchkkdhfaa.mem Go.Proofs.Ytkkklpchkkdhfaa.ints Go.Proofs.Ytkkklpchkkdhfaa.arr Go.Proofs.Ytkkklpchkkdhfaa.pm Go.Proofs.Ytkkklpchkkdhfaa.permOk Go.Proofs.Ytkkklpchkkdhfaa.permOf Go.Proofs.Ytkkklpchkkdhfaa.inv
set_option linter.unusedVariables false
set_option maxRecDepth 100000

theorem Grows.drew {w wr : World} {v : Value} {l : List Int} (h : Grows w wr v l) (n : Nat) : Grows w (wr.drewN n) v l := ⟨h.own, below_drewN h.below n⟩
theorem Grows.alloc {w wr : World} {v : Value} {l : List Int} (h : Grows w wr v l) (o : Obj) : Grows w (wr.alloc o) v l := ⟨h.own.alloc _, h.below.alloc h.below.size _⟩
theorem Grows.form {w wr : World} {v : Value} {l : List Int} (h : Grows w wr v l) : ∃ A c, v = .slice A l.length c := own_form h.own
/-- As Grows; the pair a, b lies in block T, which is not the row's. -/
structure Mid (w wr : World) (v : Value) (l : List Int) (T : Nat) (a b : Int) : Prop where
  g : Grows w wr v l
  t : Arr wr T (V [a, b]) 3
  ne : v.ownBlock ≠ some T
  T0 : w.heap.size ≤ T
theorem Mid.next {w wr w' : World} {v v' : Value} {l : List Int} {T : Nat} {a b z : Int} {n : Nat} (h : Mid w wr v l T a b) (ho : w'.ownsRow w.heap.size 3 1 v' (n + 1) (V l ++ [.int .i64 z])) (hn : n = l.length) (hg : wr.grownBy w' v.ownBlock)
    (hb : v'.ownBlock = v.ownBlock ∨ ∃ k, v'.ownBlock = some k ∧ wr.heap.size + 1 ≤ k) : Mid w w' v' (l ++ [z]) T a b := by
  have hT := h.t.lt
  refine ⟨h.g.next ho hn hg, (hg.block T hT (fun e => h.ne e.symm)).trans h.t, ?_, h.T0⟩
  rcases hb with e | ⟨k, e, hk⟩
  · rw [e]; exact h.ne
  · rw [e]; intro e2; injection e2 with e2; omega
def mid (l : List Int) (a b : Int) : Nat → List Int
  | 0 => l
  | 1 => add1 l a
  | _ => add1 (add1 l a) b
theorem mid_step (l : List Int) (a b : Int) {j : Nat} (hj : j < 2) {x : Int} (hx : [a, b].getD j 0 = x) : mid l a b (j + 1) = add1 (mid l a b j) x := by
  match j, hj with
  | 0, _ => simp at hx; subst hx; rfl
  | 1, _ => simp at hx; subst hx; rfl
theorem mid_in {n : Nat} {l : List Int} (h : In n l) {a b : Int} (a0 : 0 ≤ a) (a1 : a < n) (b0 : 0 ≤ b) (b1 : b < n) (j : Nat) : In n (mid l a b j) := by
  match j with
  | 0 => exact h
  | 1 => exact h.add a0 a1
  | j + 2 => exact (h.add a0 a1).add b0 b1

set_option maxHeartbeats 2000000 in
theorem reach_any (A : Option Addr) (n c : Nat) (B : Option Addr) (m d : Nat) (xs ys : List Int) (f : Int) (h1 h2 : Nat) (w : World) (hx : Rd w h1 A n (V xs)) (hy : Rd w h2 B m (V ys)) (ok : Ok xs) (oky : Ok ys) (hnm : n = m) (f0 : 0 ≤ f) (f1 : f < n) :
    Calls Try.prog 99 #[.slice A n c, .slice B m d, .int .i64 f] w (Gives (reach xs ys f) w) := by
  subst hnm
  obtain ⟨i0, hi0, hz0, hz1, hz2⟩ := info_parts infoI
  have lx : xs.length = n := by simpa [V] using hx.1
  have ly : ys.length = n := by simpa [V] using hy.1
  have hn : n ≤ 24 := by have := ok.len; omega
  have MX : Hid (Maps n xs) := Lib.hid (by have := ok.maps; rw [lx] at this; exact this)
  have MY : Hid (Maps n ys) := Lib.hid (by have := oky.maps; rw [ly] at this; exact this)
  have LX := Lib.hid lx; have LY := Lib.hid ly; clear lx ly ok oky
  have HX := Lib.hid hx; have HY := Lib.hid hy; clear hx hy
  go_enter Try.func99, Try.ntmps99
  go_wp2
  go_loopw [7, 8] (fun v i wr => ∃ k : Nat, k ≤ n ∧ i = .int .i64 k ∧ Grows w wr v (rs xs ys f k) ∧ k ≤ (rs xs ys f k).length) (fun _ i _ => n - (intOf i).toNat)
  case atStart => exact ⟨0, Nat.zero_le _, rfl, Grows.one w f, Nat.zero_le _⟩
  case round =>
    obtain ⟨k, hk, rfl, hm, hle⟩ := hrel
    obtain ⟨wo, rfl⟩ : ∃ wo : World, wo = wr := ⟨_, rfl⟩
    have IN := Lib.hid (rs_in MX.out MY.out f0 f1 k)
    have hln : (rs xs ys f k).length ≤ n := IN.out.len
    obtain ⟨C, cc, rfl⟩ := hm.form
    have HR := Lib.hid hm; clear hm
    by_cases hlt : k < (rs xs ys f k).length
    · obtain ⟨z, hz, hzs, hzd⟩ := IN.out.at_ hlt
      obtain ⟨g, off, u, rfl, hgl, hxu, hcx⟩ := HX.out.at_ hz
      obtain ⟨a, hxs, rfl⟩ := V_at hxu
      obtain ⟨g', off', u', rfl, hgl', hyu, hcy⟩ := HY.out.at_ hz
      obtain ⟨b, hyt, rfl⟩ := V_at hyu
      have RO := Row.of_own HR.out.own
      obtain ⟨go, oo, uo, rfl, hgo, hgo2, huo, hco, hfo⟩ := RO.at_ hlt
      rw [V_get hzs] at huo
      obtain rfl := Option.some.inj huo
      have hgw : g < w.heap.size := Nat.lt_of_lt_of_le hgl HX.out.2.1
      have hgw' : g' < w.heap.size := Nat.lt_of_lt_of_le hgl' HY.out.2.1
      rw [← HR.out.below.cell (p := ⟨g, off + z, none⟩) hgw] at hcx
      rw [← HR.out.below.cell (p := ⟨g', off' + z, none⟩) hgw'] at hcy
      have ea := permOk.getD_of hxs; have eb := permOk.getD_of hyt
      have a01 := MX.out z hz; have b01 := MY.out z hz
      rw [ea] at a01; rw [eb] at b01
      obtain ⟨a0, a1⟩ := a01; obtain ⟨b0, b1⟩ := b01
      have STEP : Hid (rs xs ys f (k + 1) = mid (rs xs ys f k) a b 2) := Lib.hid (by rw [rs_step xs ys f hlt hzd, ea, eb]; rfl)
      have LE : Hid (k + 1 ≤ (rs xs ys f (k + 1)).length) := Lib.hid (rs_le xs ys f hlt)
      have MI : Hid (∀ j, In n (mid (rs xs ys f k) a b j)) := Lib.hid (mid_in IN.out a0 a1 b0 b1)
      clear hzs hzd ea eb hxs hyt hxu hyu huo RO hfo
      go_wp2
      go_region
      go_wp2
      have hso := HR.out.below.size
      go_loopw [7, 35] (fun v i wr => ∃ j : Nat, j ≤ 2 ∧ i = .int .i64 j ∧ Mid w wr v (mid (rs xs ys f k) a b j) wo.heap.size a b) (fun _ i _ => 2 - (intOf i).toNat)
      case atStart => exact ⟨0, Nat.zero_le _, rfl, (HR.out.alloc _).drew 1, (Arr.new _ (V [a, b]) _ rfl).drew 1, by intro e; simp [Value.ownBlock] at e; omega, hso⟩
      case round =>
        obtain ⟨j, hj, rfl, hmid⟩ := hrel
        have hln2 : (mid (rs xs ys f k) a b j).length ≤ n := (MI.out j).len
        obtain ⟨C2, cc2, rfl⟩ := hmid.g.form
        have HMI := Lib.hid hmid; clear hmid
        by_cases hj2 : j < 2
        · have hcj := HMI.out.t.cell (V_getD (l := [a, b]) (k := j) (by simp; exact hj2))
          generalize hq : [a, b].getD j 0 = x at hcj
          have MS := Lib.hid (mid_step (rs xs ys f k) a b hj2 hq)
          clear hq
          have hsz := HMI.out.g.below.size
          by_cases hh : hasB (mid (rs xs ys f k) a b j) x = true
          · have HH := Lib.hid hh; have EQ : Hid (mid (rs xs ys f k) a b (j + 1) = mid (rs xs ys f k) a b j) := Lib.hid (by rw [MS.out]; unfold add1; rw [if_pos (by simpa [hasB] using hh)])
            clear hh
            go_wp2_with fail
            refine (has_any _ _ _ (mid (rs xs ys f k) a b j) _ x _ (Row.of_own HMI.out.g.own).rd (by omega)).mono ?_
            rintro e w' ⟨rfl, rfl⟩
            rw [HH.out]
            go_wp2
            go_roundw
            case rel => exact ⟨j + 1, by omega, by go_num, by rw [EQ.out]; exact HMI.out⟩
            case measure => simp [intOf]; omega
          · have hh' : hasB (mid (rs xs ys f k) a b j) x = false := by simpa using hh
            have HH := Lib.hid hh'; have EQ : Hid (mid (rs xs ys f k) a b (j + 1) = mid (rs xs ys f k) a b j ++ [x]) := Lib.hid (by rw [MS.out]; unfold add1; rw [if_neg (by simpa [hasB] using hh')])
            clear hh hh'
            go_wp2_with fail
            refine (has_any _ _ _ (mid (rs xs ys f k) a b j) _ x _ (Row.of_own HMI.out.g.own).rd (by omega)).mono ?_
            rintro e w' ⟨rfl, rfl⟩
            rw [HH.out]
            go_wp2_with (at_builtin; refine wpList_append_one2 wr _ _ rfl _ _ 30 rfl w.heap.size 3 i0 _ 8 1 Try.underlying30 hi0 hz0 hz1 rfl hz2 rfl _ _ _ rfl HMI.out.g.own rfl rfl ?c4 (by decide) hsz ?_)
            case c4 => omega
            intro v' w' ho hg hb
            have HN : Hid (Mid w w' v' (mid (rs xs ys f k) a b (j + 1)) wo.heap.size a b) := Lib.hid (by rw [EQ.out]; exact HMI.out.next ho rfl hg hb)
            clear ho hg hb HMI hcj
            go_wp2
            go_roundw
            case rel => exact ⟨j + 1, by omega, by go_num, HN.out⟩
            case measure => simp [intOf]; omega
        · obtain rfl : j = 2 := by omega
          have HN : Hid (Grows w wr (.slice C2 (mid (rs xs ys f k) a b 2).length cc2) (rs xs ys f (k + 1))) := Lib.hid (by rw [STEP.out]; exact HMI.out.g)
          go_wp2
          go_roundw
          case rel => exact ⟨k + 1, by omega, by go_num, HN.out, LE.out⟩
          case measure => simp [intOf]; omega
    · have e : k = (rs xs ys f k).length := by omega
      have R : Hid (rs xs ys f k = reach xs ys f) := Lib.hid (reach_of LX.out hk (by omega))
      have hd : decide (k < (rs xs ys f k).length) = false := by simp; omega
      clear e
      go_wp2
      go_ret
      have := HR.out
      rw [R.out] at this ⊢
      exact this.gives
end Go.Proofs.Ytkkklpchkkdhfaa.fns
