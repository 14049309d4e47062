import Derived.Test.YtkkklpchkkdhfaaY07
import Derived.Test.YtkkklpchkkdhfaaY04
import Derived.RegionTactic
import Derived.BigRegion
import Derived.Test.YtkkklpchkkdhfaaY01
/-
  Contract of spec.l02Reach.
-/
namespace Go.Proofs.Ytkkklpchkkdhfaa.fns
open Go.ChangeShapes Go.WideShapes Go.ChangeAt Go.RowKit
open Go.Proofs.Ytkkklpchkkdhfaa.mem Go.Proofs.Ytkkklpchkkdhfaa.ints Go.Proofs.Ytkkklpchkkdhfaa.arr Go.Proofs.Ytkkklpchkkdhfaa.pm Go.Proofs.Ytkkklpchkkdhfaa.permOk Go.Proofs.Ytkkklpchkkdhfaa.permOf Go.Proofs.Ytkkklpchkkdhfaa.inv
set_option linter.unusedVariables false
set_option maxRecDepth 100000

theorem Grows.drew {w wr : World} {v : Value} {l : List Int} (h : Grows w wr v l) (n : Nat) : Grows w (wr.drewN n) v l := ⟨h.own, below_drewN h.below n⟩
theorem Grows.alloc {w wr : World} {v : Value} {l : List Int} (h : Grows w wr v l) (o : Obj) : Grows w (wr.alloc o) v l := ⟨h.own.alloc _, h.below.alloc h.below.size _⟩
theorem Grows.form {w wr : World} {v : Value} {l : List Int} (h : Grows w wr v l) : ∃ A c, v = .slice A l.length c := own_form h.own
/-- As Grows; the pair a, b lies in block T, which is not the row's. -/
structure Mid (w wr : World) (v : Value) (l : List Int) (T : Nat) (a b : Int) : Prop where
  g : Grows w wr v l
  t : Arr wr T (V [a, b]) 3
  ne : v.ownBlock ≠ some T
  T0 : w.heap.size ≤ T
theorem Mid.next {w wr w' : World} {v v' : Value} {l : List Int} {T : Nat} {a b z : Int} {n : Nat} (h : Mid w wr v l T a b) (ho : w'.ownsRow w.heap.size 3 1 v' (n + 1) (V l ++ [.int .i64 z])) (hn : n = l.length) (hg : wr.grownBy w' v.ownBlock)
    (hb : v'.ownBlock = v.ownBlock ∨ ∃ k, v'.ownBlock = some k ∧ wr.heap.size + 1 ≤ k) : Mid w w' v' (l ++ [z]) T a b := by
  have hT := h.t.lt
  refine ⟨h.g.next ho hn hg, (hg.block T hT (fun e => h.ne e.symm)).trans h.t, ?_, h.T0⟩
  rcases hb with e | ⟨k, e, hk⟩
  · rw [e]; exact h.ne
  · rw [e]; intro e2; injection e2 with e2; omega
def mid (l : List Int) (a b : Int) : Nat → List Int
  | 0 => l
  | 1 => add1 l a
  | _ => add1 (add1 l a) b
theorem mid_step (l : List Int) (a b : Int) {j : Nat} (hj : j < 2) {x : Int} (hx : [a, b].getD j 0 = x) : mid l a b (j + 1) = add1 (mid l a b j) x := by
  match j, hj with
  | 0, _ => simp at hx; subst hx; rfl
  | 1, _ => simp at hx; subst hx; rfl
theorem mid_in {n : Nat} {l : List Int} (h : In n l) {a b : Int} (a0 : 0 ≤ a) (a1 : a < n) (b0 : 0 ≤ b) (b1 : b < n) (j : Nat) : In n (mid l a b j) := by
  match j with
  | 0 => exact h
  | 1 => exact h.add a0 a1
  | j + 2 => exact (h.add a0 a1).add b0 b1

set_option maxHeartbeats 2000000 in
theorem reach_any (A : Option Addr) (n c : Nat) (B : Option Addr) (m d : Nat) (xs ys : List Int) (f : Int) (h1 h2 : Nat) (w : World) (hx : Rd w h1 A n (V xs)) (hy : Rd w h2 B m (V ys)) (ok : Ok xs) (oky : Ok ys) (hnm : n = m) (f0 : 0 ≤ f) (f1 : f < n) :
    Calls Try.prog 99 #[.slice A n c, .slice B m d, .int .i64 f] w (Gives (reach xs ys f) w) := by
  subst hnm
  obtain ⟨i0, hi0, hz0, hz1, hz2⟩ := info_parts infoI
  have lx : xs.length = n := by simpa [V] using hx.1
  have ly : ys.length = n := by simpa [V] using hy.1
  have hn : n ≤ 24 := by have := ok.len; omega
  have MX : Hid (Maps n xs) := Lib.hid (by have := ok.maps; rw [lx] at this; exact this)
  have MY : Hid (Maps n ys) := Lib.hid (by have := oky.maps; rw [ly] at this; exact this)
  have LX := Lib.hid lx; have LY := Lib.hid ly; clear lx ly ok oky
  have HX := Lib.hid hx; have HY := Lib.hid hy; clear hx hy
  go_enter Try.func99, Try.ntmps99
  go_wp2
  go_loopw [7, 8] (fun v i wr => ∃ k : Nat, k ≤ n ∧ i = .int .i64 k ∧ Grows w wr v (rs xs ys f k) ∧ k ≤ (rs xs ys f k).length) (fun _ i _ => n - (intOf i).toNat)
  case atStart => exact ⟨0, Nat.zero_le _, rfl, Grows.one w f, Nat.zero_le _⟩
  case round =>
    obtain ⟨k, hk, rfl, hm, hle⟩ := hrel
    obtain ⟨wo, rfl⟩ : ∃ wo : World, wo = wr := ⟨_, rfl⟩
    have IN := Lib.hid (rs_in MX.out MY.out f0 f1 k)
    have hln : (rs xs ys f k).length ≤ n := IN.out.len
    obtain ⟨C, cc, rfl⟩ := hm.form
    have HR := Lib.hid hm; clear hm
    by_cases hlt : k < (rs xs ys f k).length
    · obtain ⟨z, hz, hzs, hzd⟩ := IN.out.at_ hlt
      obtain ⟨g, off, u, rfl, hgl, hxu, hcx⟩ := HX.out.at_ hz
      obtain ⟨a, hxs, rfl⟩ := V_at hxu
      obtain ⟨g', off', u', rfl, hgl', hyu, hcy⟩ := HY.out.at_ hz
      obtain ⟨b, hyt, rfl⟩ := V_at hyu
      have RO := Row.of_own HR.out.own
      obtain ⟨go, oo, uo, rfl, hgo, hgo2, huo, hco, hfo⟩ := RO.at_ hlt
      rw [V_get hzs] at huo
      obtain rfl := Option.some.inj huo
      have hgw : g < w.heap.size := Nat.lt_of_lt_of_le hgl HX.out.2.1
      have hgw' : g' < w.heap.size := Nat.lt_of_lt_of_le hgl' HY.out.2.1
      rw [← HR.out.below.cell (p := ⟨g, off + z, none⟩) hgw] at hcx
      rw [← HR.out.below.cell (p := ⟨g', off' + z, none⟩) hgw'] at hcy
      have ea := permOk.getD_of hxs; have eb := permOk.getD_of hyt
      have a01 := MX.out z hz; have b01 := MY.out z hz
      rw [ea] at a01; rw [eb] at b01
      obtain ⟨a0, a1⟩ := a01; obtain ⟨b0, b1⟩ := b01
      have STEP : Hid (rs xs ys f (k + 1) = mid (rs xs ys f k) a b 2) := Lib.hid (by rw [rs_step xs ys f hlt hzd, ea, eb]; rfl)
      have LE : Hid (k + 1 ≤ (rs xs ys f (k + 1)).length) := Lib.hid (rs_le xs ys f hlt)
      have MI : Hid (∀ j, In n (mid (rs xs ys f k) a b j)) := Lib.hid (mid_in IN.out a0 a1 b0 b1)
      clear hzs hzd ea eb hxs hyt hxu hyu huo RO hfo
      go_wp2
      go_region
      go_wp2
      have hso := HR.out.below.size
      go_loopw [7, 35] (fun v i wr => ∃ j : Nat, j ≤ 2 ∧ i = .int .i64 j ∧ Mid w wr v (mid (rs xs ys f k) a b j) wo.heap.size a b) (fun _ i _ => 2 - (intOf i).toNat)
      case atStart => exact ⟨0, Nat.zero_le _, rfl, (HR.out.alloc _).drew 1, (Arr.new _ (V [a, b]) _ rfl).drew 1, by intro e; simp [Value.ownBlock] at e; omega, hso⟩
      case round =>
        obtain ⟨j, hj, rfl, hmid⟩ := hrel
        have hln2 : (mid (rs xs ys f k) a b j).length ≤ n := (MI.out j).len
        obtain ⟨C2, cc2, rfl⟩ := hmid.g.form
        have HMI := Lib.hid hmid; clear hmid
        by_cases hj2 : j < 2
        · have hcj := HMI.out.t.cell (V_getD (l := [a, b]) (k := j) (by simp; exact hj2))
          generalize hq : [a, b].getD j 0 = x at hcj
          have MS := Lib.hid (mid_step (rs xs ys f k) a b hj2 hq)
          clear hq
          have hsz := HMI.out.g.below.size
          by_cases hh : hasB (mid (rs xs ys f k) a b j) x = true
          · have HH := Lib.hid hh; have EQ : Hid (mid (rs xs ys f k) a b (j + 1) = mid (rs xs ys f k) a b j) := Lib.hid (by rw [MS.out]; unfold add1; rw [if_pos (by simpa [hasB] using hh)])
            clear hh
            go_wp2_with fail
            refine (has_any _ _ _ (mid (rs xs ys f k) a b j) _ x _ (Row.of_own HMI.out.g.own).rd (by omega)).mono ?_
            rintro e w' ⟨rfl, rfl⟩
            rw [HH.out]
            go_wp2
            go_roundw
            case rel => exact ⟨j + 1, by omega, by go_num, by rw [EQ.out]; exact HMI.out⟩
            case measure => simp [intOf]; omega
          · have hh' : hasB (mid (rs xs ys f k) a b j) x = false := by simpa using hh
            have HH := Lib.hid hh'; have EQ : Hid (mid (rs xs ys f k) a b (j + 1) = mid (rs xs ys f k) a b j ++ [x]) := Lib.hid (by rw [MS.out]; unfold add1; rw [if_neg (by simpa [hasB] using hh')])
            clear hh hh'
            go_wp2_with fail
            refine (has_any _ _ _ (mid (rs xs ys f k) a b j) _ x _ (Row.of_own HMI.out.g.own).rd (by omega)).mono ?_
            rintro e w' ⟨rfl, rfl⟩
            rw [HH.out]
            go_wp2_with (at_builtin; refine wpList_append_one2 wr _ _ rfl _ _ 30 rfl w.heap.size 3 i0 _ 8 1 Try.underlying30 hi0 hz0 hz1 rfl hz2 rfl _ _ _ rfl HMI.out.g.own rfl rfl ?c4 (by decide) hsz ?_)
            case c4 => omega
            intro v' w' ho hg hb
            have HN : Hid (Mid w w' v' (mid (rs xs ys f k) a b (j + 1)) wo.heap.size a b) := Lib.hid (by rw [EQ.out]; exact HMI.out.next ho rfl hg hb)
            clear ho hg hb HMI hcj
            go_wp2
            go_roundw
            case rel => exact ⟨j + 1, by omega, by go_num, HN.out⟩
            case measure => simp [intOf]; omega
        · obtain rfl : j = 2 := by omega
          have HN : Hid (Grows w wr (.slice C2 (mid (rs xs ys f k) a b 2).length cc2) (rs xs ys f (k + 1))) := Lib.hid (by rw [STEP.out]; exact HMI.out.g)
          go_wp2
          go_roundw
          case rel => exact ⟨k + 1, by omega, by go_num, HN.out, LE.out⟩
          case measure => simp [intOf]; omega
    · have e : k = (rs xs ys f k).length := by omega
      have R : Hid (rs xs ys f k = reach xs ys f) := Lib.hid (reach_of LX.out hk (by omega))
      have hd : decide (k < (rs xs ys f k).length) = false := by simp; omega
      clear e
      go_wp2
      go_ret
      have := HR.out
      rw [R.out] at this ⊢
      exact this.gives
end Go.Proofs.Ytkkklpchkkdhfaa.fns

/-
  Contract of the program's countReached; of IsTransitive, of the model and of the program.
-/
namespace Go.Proofs.Ytkkklpchkkdhfaa.fns
open Go.ChangeShapes Go.WideShapes Go.ChangeAt Go.RowKit
open Go.Proofs.Ytkkklpchkkdhfaa.mem Go.Proofs.Ytkkklpchkkdhfaa.ints Go.Proofs.Ytkkklpchkkdhfaa.arr Go.Proofs.Ytkkklpchkkdhfaa.pm Go.Proofs.Ytkkklpchkkdhfaa.permOk Go.Proofs.Ytkkklpchkkdhfaa.permOf Go.Proofs.Ytkkklpchkkdhfaa.inv
set_option linter.unusedVariables false
set_option maxRecDepth 100000

/-- Two boxed permutations, the flags of l, and the row l that grows. -/
structure Cr (w wr : World) (ps qs : List Int) (v : Value) (l : List Int) : Prop where
  own : wr.ownsRow (w.heap.size + 3) 3 1 v l.length (V l)
  p : Arr wr w.heap.size (V ps) 62
  q : Arr wr (w.heap.size + 1) (V qs) 62
  met : Arr wr (w.heap.size + 2) (VB (flagsOf l)) 129
  below : Below w.heap.size w wr
theorem Cr.drew {w wr : World} {ps qs l : List Int} {v : Value} (h : Cr w wr ps qs v l) (n : Nat) : Cr w (wr.drewN n) ps qs v l := ⟨h.own, h.p, h.q, h.met, below_drewN h.below n⟩
theorem Cr.ne {w wr : World} {ps qs l : List Int} {v : Value} (h : Cr w wr ps qs v l) {k : Nat} (hk : k < w.heap.size + 3) : some k ≠ v.ownBlock := fun e => by
  have := (h.own.lt k e.symm).1; omega
theorem Cr.next {w wr w1 w' : World} {ps qs l : List Int} {v v' : Value} {z n : Nat} (h : Cr w wr ps qs v l) (hw1 : w1 = wr.setCell ⟨w.heap.size + 2, z, none⟩ (.bool true))
    (ho : w'.ownsRow (w.heap.size + 3) 3 1 v' (n + 1) (V l ++ [.int .i64 (z : Int)])) (hn : n = l.length) (hg : w1.grownBy w' v.ownBlock) (hz : ¬ (z : Int) ∈ l) : Cr w w' ps qs v' (add1 l (z : Int)) := by
  subst hn
  have e : V (add1 l (z : Int)) = V l ++ [.int .i64 (z : Int)] := by unfold add1; rw [if_neg hz]; simp [V]
  have el : (add1 l (z : Int)).length = l.length + 1 := by unfold add1; rw [if_neg hz]; simp
  have hp := h.p.lt; have hq := h.q.lt; have hm := h.met.lt
  have s1 : w1.heap.size = wr.heap.size := by rw [hw1]; simp [World.setCell]
  refine ⟨by rw [e, el]; exact ho, ?_, ?_, ?_, ?_⟩
  · exact (hg.block _ (by omega) (h.ne (by omega))).trans (by rw [hw1]; exact h.p.other (by omega) _)
  · exact (hg.block _ (by omega) (h.ne (by omega))).trans (by rw [hw1]; exact h.q.other (by omega) _)
  · refine (hg.block _ (by omega) (h.ne (by omega))).trans ?_
    have hh := h.met.set_ z (.bool true)
    rw [VB_set, flagsOf_add hz, ← hw1] at hh
    exact hh
  · refine Below.trans (b := w1) (by rw [hw1]; exact h.below.setCell (by simp) _) ?_
    exact (Below.refl _ _).grown hg (by have := h.below.size; omega) (fun k hk => by have := (h.own.lt k hk).1; omega)
theorem index_pair (a b : Int) (j : Nat) (hj : j < 2) (x : Int) (hx : [a, b].getD j 0 = x) (w : World) :
    (Instr.index 131 (.agg #[.int .i64 a, .int .i64 b]) (.int .i64 (j : Int))).run Try.prog w = .ok (.int .i64 x) w := by
  have hs : (sizeOf 3).run Try.prog w = .ok 1 w := by kernel_rfl
  have h2 : (V [a, b])[j]? = some (.int .i64 x) := by subst hx; exact V_getD (by simpa using hj)
  have h3 : (#[Value.int .i64 a, Value.int .i64 b] : Array Value) = (V [a, b]).toArray := rfl
  rw [h3]
  simp [Instr.index, asIntOf, run_underlying Try.underlying131, hj, hs, part, h2]
theorem pair_in {n : Nat} {a b x : Int} {j : Nat} (hj : j < 2) (hx : [a, b].getD j 0 = x) (a0 : 0 ≤ a) (a1 : a < n) (b0 : 0 ≤ b) (b1 : b < n) : ∃ z : Nat, x = (z : Int) ∧ z < n := by
  subst hx
  match j, hj with
  | 0, _ => exact ⟨a.toNat, by simp; omega, by omega⟩
  | 1, _ => exact ⟨b.toNat, by simp; omega, by omega⟩

set_option maxHeartbeats 2000000 in
theorem count_any (ps qs : List Int) (w : World) (hp : Sq ps) (hq : Sq qs) :
    Calls Try.prog 110 #[.agg (V ps).toArray, .agg (V qs).toArray] w fun e w' => e = .returned (.int .i64 (reach ps qs 0).length) ∧ Below w.heap.size w w' := by
  obtain ⟨i0, hi0, hz0, hz1, hz2⟩ := info_parts infoI
  have MX := Lib.hid (Sq.maps hp); have MY := Lib.hid (Sq.maps hq)
  have LX := Lib.hid hp.len; have LY := Lib.hid hq.len
  clear hp hq
  go_enter Try.func110, Try.ntmps110
  go_wp2
  go_loopw [6, 7] (fun v i wr => ∃ k : Nat, k ≤ 24 ∧ i = .int .i64 k ∧ Cr w wr ps qs v (rs ps qs 0 k) ∧ k ≤ (rs ps qs 0 k).length) (fun _ i _ => 24 - (intOf i).toNat)
  case atStart =>
    refine ⟨0, Nat.zero_le _, rfl, ⟨?_, ?_, ?_, ?_, ?_⟩, Nat.zero_le _⟩
    · exact ⟨rfl, .inr ⟨w.heap.size + 3, 1, #[.int .i64 0], rfl, Nat.le_refl _, Arr.new _ (V [0]) _ (by simp), Nat.le_refl _, by unfold maxLen; omega, rfl, rfl⟩⟩
    · exact (((Arr.new w (V ps) _ rfl).alloc _).alloc _).alloc _
    · exact ((Arr.new _ (V qs) _ (by simp)).alloc _).alloc _
    · exact (Arr.new _ (VB (flagsOf [0])) _ (by simp)).alloc _
    · exact ((((Below.refl _ _).alloc (Nat.le_refl _) _).alloc (by simp) _).alloc (by simp; omega) _).alloc (by simp; omega) _
  case round =>
    obtain ⟨k, hk, rfl, hm, hle⟩ := hrel
    obtain ⟨wo, rfl⟩ : ∃ wo : World, wo = wr := ⟨_, rfl⟩
    have IN := Lib.hid (rs_in MX.out MY.out (f := 0) (by omega) (by omega) k)
    have hln : (rs ps qs 0 k).length ≤ 24 := IN.out.len
    obtain ⟨C, cc, rfl⟩ := own_form hm.own
    have HR := Lib.hid hm; clear hm
    by_cases hlt : k < (rs ps qs 0 k).length
    · obtain ⟨z, hz, hzs, hzd⟩ := IN.out.at_ hlt
      have RO := Row.of_own HR.out.own
      obtain ⟨go, oo, uo, rfl, hgo, hgo2, huo, hco, hfo⟩ := RO.at_ hlt
      rw [V_get hzs] at huo
      obtain rfl := Option.some.inj huo
      have hcp := HR.out.p.cell (V_getD (l := ps) (k := z) (by rw [LX.out]; exact hz))
      have hcq := HR.out.q.cell (V_getD (l := qs) (k := z) (by rw [LY.out]; exact hz))
      have a01 := MX.out z hz; have b01 := MY.out z hz
      have STEP : Hid (rs ps qs 0 (k + 1) = mid (rs ps qs 0 k) (ps.getD z 0) (qs.getD z 0) 2) := Lib.hid (by rw [rs_step ps qs 0 hlt hzd]; rfl)
      generalize ps.getD z 0 = a at *
      generalize qs.getD z 0 = b at *
      obtain ⟨a0, a1⟩ := a01; obtain ⟨b0, b1⟩ := b01
      have LE : Hid (k + 1 ≤ (rs ps qs 0 (k + 1)).length) := Lib.hid (rs_le ps qs 0 hlt)
      have MI : Hid (∀ j, In 24 (mid (rs ps qs 0 k) a b j)) := Lib.hid (mid_in IN.out a0 a1 b0 b1)
      clear hzs hzd huo RO hfo
      go_wp2
      go_region
      go_wp2
      go_loopw [6, 30] (fun v i wr => ∃ j : Nat, j ≤ 2 ∧ i = .int .i64 j ∧ Cr w wr ps qs v (mid (rs ps qs 0 k) a b j)) (fun _ i _ => 2 - (intOf i).toNat)
      case atStart => exact ⟨0, Nat.zero_le _, rfl, HR.out.drew 1⟩
      case round =>
        obtain ⟨j, hj, rfl, hmid⟩ := hrel
        have hln2 : (mid (rs ps qs 0 k) a b j).length ≤ 24 := (MI.out j).len
        obtain ⟨C2, cc2, rfl⟩ := own_form hmid.own
        have HMI := Lib.hid hmid; clear hmid
        by_cases hj2 : j < 2
        · generalize hq : [a, b].getD j 0 = x
          have MS := Lib.hid (mid_step (rs ps qs 0 k) a b hj2 hq)
          have hix := index_pair a b j hj2 x hq
          obtain ⟨y, rfl, hy⟩ := pair_in hj2 hq a0 a1 b0 b1
          clear hq
          have hsz : w.heap.size + 3 ≤ wr.heap.size := HMI.out.met.lt
          by_cases hh : (y : Int) ∈ mid (rs ps qs 0 k) a b j
          · have hfl : wr.cell? ⟨w.heap.size + 2, y, none⟩ = some (.bool true) := flags_cell HMI.out.met hy (by simpa using hh)
            have EQ : Hid (mid (rs ps qs 0 k) a b (j + 1) = mid (rs ps qs 0 k) a b j) := Lib.hid (by rw [MS.out]; unfold add1; rw [if_pos hh])
            clear hh
            go_wp2
            go_roundw
            case rel => exact ⟨j + 1, by omega, by go_num, by rw [EQ.out]; exact HMI.out⟩
            case measure => simp [intOf]; omega
          · have hfl : wr.cell? ⟨w.heap.size + 2, y, none⟩ = some (.bool false) := flags_cell HMI.out.met hy (by simpa using hh)
            have hff := HMI.out.met.frozen y
            have HH := Lib.hid hh
            have OW : Hid ((wr.setCell ⟨w.heap.size + 2, y, none⟩ (.bool true)).ownsRow (w.heap.size + 3) 3 1 (.slice C2 (mid (rs ps qs 0 k) a b j).length cc2) (mid (rs ps qs 0 k) a b j).length (V (mid (rs ps qs 0 k) a b j))) := Lib.hid (by
              refine HMI.out.own.kept (row := some (w.heap.size + 2)) ⟨rfl, rfl, rfl, by simp [World.setCell], fun i hi hne => heap_setCell_other _ _ _ _ (fun e => hne (by rw [e]))⟩ (.inr (fun e => HMI.out.ne (k := w.heap.size + 2) (by omega) e.symm)))
            clear hh
            generalize hw1 : wr.setCell ⟨w.heap.size + 2, y, none⟩ (.bool true) = w1 at OW
            have HW1 := Lib.hid hw1
            have hsz1 : w.heap.size + 3 ≤ w1.heap.size := by rw [← hw1]; simpa [World.setCell] using hsz
            go_wp2_with (at_builtin; refine wpList_append_one w1 _ _ rfl _ _ 30 rfl (w.heap.size + 3) 3 i0 _ 8 Try.underlying30 hi0 hz0 hz1 hz2 rfl _ _ _ rfl OW.out rfl rfl ?c4 (by decide) hsz1 ?_)
            case c4 => omega
            intro v' w' ho hg
            have HN : Hid (Cr w w' ps qs v' (mid (rs ps qs 0 k) a b (j + 1))) := Lib.hid (by rw [MS.out]; exact HMI.out.next HW1.out.symm ho rfl hg HH.out)
            clear ho hg HMI hw1 hfl hff
            go_wp2
            go_roundw
            case rel => exact ⟨j + 1, by omega, by go_num, HN.out⟩
            case measure => simp [intOf]; omega
        · obtain rfl : j = 2 := by omega
          have HN : Hid (Cr w wr ps qs (.slice C2 (mid (rs ps qs 0 k) a b 2).length cc2) (rs ps qs 0 (k + 1))) := Lib.hid (by rw [STEP.out]; exact HMI.out)
          go_wp2
          go_roundw
          case rel => exact ⟨k + 1, by omega, by go_num, HN.out, LE.out⟩
          case measure => simp [intOf]; omega
    · have e : k = (rs ps qs 0 k).length := by omega
      have R : Hid (rs ps qs 0 k = reach ps qs 0) := Lib.hid (reach_of LX.out hk (by omega))
      have hd : decide (k < (rs ps qs 0 k).length) = false := by simp; omega
      clear e
      go_wp2
      go_ret
      exact ⟨by rw [R.out]; rfl, HR.out.below⟩
end Go.Proofs.Ytkkklpchkkdhfaa.fns

/-
  Contracts of IsTransitive, of the model and of the program.
-/
namespace Go.Proofs.Ytkkklpchkkdhfaa.fns
open Go.ChangeShapes Go.WideShapes Go.ChangeAt Go.RowKit
open Go.Proofs.Ytkkklpchkkdhfaa.mem Go.Proofs.Ytkkklpchkkdhfaa.ints Go.Proofs.Ytkkklpchkkdhfaa.arr Go.Proofs.Ytkkklpchkkdhfaa.pm Go.Proofs.Ytkkklpchkkdhfaa.permOk Go.Proofs.Ytkkklpchkkdhfaa.permOf Go.Proofs.Ytkkklpchkkdhfaa.inv
set_option linter.unusedVariables false
set_option maxRecDepth 100000

theorem wpList_load_row_g {P : Program} {ops : Array Oper} {rest : List Oper} {o : Oper} {a : Act} {w : World} {Q : Exit → Act → World → Prop} (hw : Region.wanted o (yielded ops a.tmps) = true) (ty : TypeId) (x : Operand) (ho : o.op = .load ty x)
    (g : Nat) (hx : a.eval x = .pointer (some ⟨g, 0, none⟩)) (t : TypeId) (cs : Array Value) (fr : Nat × Nat) (d : TypeDesc) (hg : w.heap[g]? = some (.cells cs t fr))
    (hu : P.underlying ty = some d) (hd : (match d with | .struct _ | .array _ _ => true | _ => false) = true) (hi : (P.info? ty).map (·.size) = some cs.size)
    (h : wpList P ops Q rest (a.put o.dst (.agg cs)) w) : wpList P ops Q (o :: rest) a w :=
  wpList_step fun K hK => by rw [if_pos hw]; exact wp_load_row ty x ho g hx t cs fr d hg hu hd hi (hK _ _ h)
set_option maxHeartbeats 1000000 in
theorem trans_spec (A : Option Addr) (n c : Nat) (xs : List Int) (B : Option Addr) (m d : Nat) (ys : List Int) (h1 h2 : Nat) (w : World) (hx : Rd w h1 A n (V xs)) (hy : Rd w h2 B m (V ys)) (hn : n ≤ 1048576) (hm : m ≤ 1048576) (hc : n ≤ c) (hd : m ≤ d) :
    Calls Try.prog 82 #[.slice A n c, .slice B m d] w fun e w' => e = .returned (.bool (transB xs ys)) ∧ Below w.heap.size w w' := by
  have lx : xs.length = n := by simpa [V] using hx.1
  have ly : ys.length = m := by simpa [V] using hy.1
  have LX := Lib.hid lx; have LY := Lib.hid ly; clear lx ly
  have HX := Lib.hid hx; have HY := Lib.hid hy; clear hx hy
  by_cases ox : okB xs = true
  · by_cases oy : okB ys = true
    · by_cases hnm : n = m
      · subst hnm
        by_cases hn0 : 0 < n
        · have OX := Lib.hid (Ok.of xs ox); have OY := Lib.hid (Ok.of ys oy)
          have R : Hid (transB xs ys = decide ((reach xs ys 0).length = n)) := Lib.hid (by simp [transB, okBB, ox, oy, LX.out, LY.out, hn0])
          have HOX := Lib.hid ox; have HOY := Lib.hid oy; clear ox oy
          go_enter Try.func82, Try.ntmps82
          go_wp2_with fail
          refine (permOk.spec_any A n c xs _ _ HX.out hn hc).mono ?_
          rintro e w1 ⟨rfl, rfl⟩
          rw [HOX.out]
          go_wp2_with fail
          refine (permOk.spec_any B n d ys _ _ HY.out hm hd).mono ?_
          rintro e w1 ⟨rfl, rfl⟩
          rw [HOY.out]
          go_wp2_with fail
          refine (reach_any A n c B n d xs ys 0 _ _ _ HX.out HY.out OX.out OY.out rfl (by omega) (by omega)).mono ?_
          rintro e w3 ⟨v, rfl, ho, hb⟩
          obtain ⟨C, cc, rfl⟩ := own_form ho
          have HB := Lib.hid hb; clear ho hb
          have HLN : Hid ((reach xs ys 0).length = (reach xs ys 0).length) := Lib.hid rfl
          generalize (reach xs ys 0).length = r at *
          by_cases hr : r = n
          · subst hr
            go_wp2_with fail
            go_ret
            exact ⟨ret_bool (by rw [R.out]; simp), HB.out⟩
          · have hq : ((r : Int) == (n : Int)) = false := by simp; omega
            have HR := Lib.hid hr; clear hr
            go_wp2_with fail
            go_ret
            exact ⟨ret_bool (by rw [R.out, decide_eq_false HR.out]), HB.out⟩
        · obtain rfl : n = 0 := by omega
          have R : Hid (transB xs ys = false) := Lib.hid (by simp [transB, LX.out])
          have HOX := Lib.hid ox; have HOY := Lib.hid oy; clear ox oy
          go_enter Try.func82, Try.ntmps82
          go_wp2_with fail
          refine (permOk.spec_any A 0 c xs _ _ HX.out hn hc).mono ?_
          rintro e w1 ⟨rfl, rfl⟩
          rw [HOX.out]
          go_wp2_with fail
          refine (permOk.spec_any B 0 d ys _ _ HY.out hm hd).mono ?_
          rintro e w1 ⟨rfl, rfl⟩
          rw [HOY.out]
          go_wp2_with fail
          go_ret
          exact ⟨ret_bool R.out.symm, Below.refl _ _⟩
      · have R : Hid (transB xs ys = false) := Lib.hid (by simp [transB, okBB, LX.out, LY.out, hnm])
        have hb : ((n : Int) == (m : Int)) = false := by simp; omega
        have HOX := Lib.hid ox; have HOY := Lib.hid oy; clear ox oy hnm
        go_enter Try.func82, Try.ntmps82
        go_wp2_with fail
        refine (permOk.spec_any A n c xs _ _ HX.out hn hc).mono ?_
        rintro e w1 ⟨rfl, rfl⟩
        rw [HOX.out]
        go_wp2_with fail
        refine (permOk.spec_any B m d ys _ _ HY.out hm hd).mono ?_
        rintro e w1 ⟨rfl, rfl⟩
        rw [HOY.out]
        go_wp2_with fail
        go_ret
        exact ⟨ret_bool R.out.symm, Below.refl _ _⟩
    · have oy' : okB ys = false := by simpa using oy
      have R : Hid (transB xs ys = false) := Lib.hid (by simp [transB, okBB, oy'])
      have HOX := Lib.hid ox; have HOY := Lib.hid oy'; clear ox oy oy'
      go_enter Try.func82, Try.ntmps82
      go_wp2_with fail
      refine (permOk.spec_any A n c xs _ _ HX.out hn hc).mono ?_
      rintro e w1 ⟨rfl, rfl⟩
      rw [HOX.out]
      go_wp2_with fail
      refine (permOk.spec_any B m d ys _ _ HY.out hm hd).mono ?_
      rintro e w1 ⟨rfl, rfl⟩
      rw [HOY.out]
      go_wp2_with fail
      go_ret
      exact ⟨ret_bool R.out.symm, Below.refl _ _⟩
  · have ox' : okB xs = false := by simpa using ox
    have R : Hid (transB xs ys = false) := Lib.hid (by simp [transB, okBB, ox'])
    have HOX := Lib.hid ox'; clear ox ox'
    go_enter Try.func82, Try.ntmps82
    go_wp2_with fail
    refine (permOk.spec_any A n c xs _ _ HX.out hn hc).mono ?_
    rintro e w1 ⟨rfl, rfl⟩
    rw [HOX.out]
    go_wp2_with fail
    go_ret
    exact ⟨ret_bool R.out.symm, Below.refl _ _⟩
set_option maxHeartbeats 2000000 in
theorem trans_impl_pos (A : Option Addr) (n c : Nat) (xs : List Int) (B : Option Addr) (m d : Nat) (ys : List Int) (h1 h2 : Nat) (w : World) (hx : Rd w h1 A n (V xs)) (hy : Rd w h2 B m (V ys)) (hn : n ≤ 1048576) (hm : m ≤ 1048576) (hn0 : 0 < n) :
    Calls Try.prog 100 #[.slice A n c, .slice B m d] w fun e w' => e = .returned (.bool (transB xs ys)) ∧ Below w.heap.size w w' := by
  have lx : xs.length = n := by simpa [V] using hx.1
  have ly : ys.length = m := by simpa [V] using hy.1
  have LX := Lib.hid lx; have LY := Lib.hid ly; clear lx ly
  have HX := Lib.hid hx; have HY := Lib.hid hy; clear hx hy
  by_cases hall : okBB xs ys = true
  · obtain ⟨ox, oy, el⟩ := okBB_iff.1 hall
    have OX := Lib.hid (Ok.of xs ox); have OY := Lib.hid (Ok.of ys oy)
    have hn24 : n ≤ 24 := by have := OX.out.len; rw [LX.out] at this; exact this
    have HF : Hid (transB xs ys = decide ((reach (ext xs) (ext ys) 0).length = n)) := Lib.hid (by rw [reach_ext OX.out OY.out el (by omega) (by rw [LX.out]; omega)]; simp [transB, hall, LX.out, hn0])
    have HA := Lib.hid hall; clear hall ox oy el
    go_enter Try.func100, Try.ntmps100
    go_wp2_with fail
    refine (permsOf_any A n c B m d xs ys _ _ _ HX.out HY.out hn hm HX.out.2.1 HY.out.2.1).mono ?_
    rintro e w1 ⟨rfl, b1⟩
    rw [HA.out, if_pos rfl, if_pos rfl]
    have B1 := Lib.hid b1; clear b1
    go_wp2_with (first | (refine wpList_store_row rfl 62 (.tmp 5) (.tmp 12) rfl w1.heap.size (V (ext xs)).toArray rfl rfl 62 (V zeros).toArray ((Arr.new w1 (V zeros) _ rfl).alloc _) (size_V (ext_len _)) (by simp [V_len, ext_len, zeros]) (one_V _) ?_; generalize hw3 : ((w1.alloc (.cells #[.int .i64 0, .int .i64 0, .int .i64 0, .int .i64 0, .int .i64 0, .int .i64 0, .int .i64 0, .int .i64 0, .int .i64 0, .int .i64 0, .int .i64 0, .int .i64 0, .int .i64 0, .int .i64 0, .int .i64 0, .int .i64 0, .int .i64 0, .int .i64 0, .int .i64 0, .int .i64 0, .int .i64 0, .int .i64 0, .int .i64 0, .int .i64 0] 62)).alloc (.cells #[.int .i64 0, .int .i64 0, .int .i64 0, .int .i64 0, .int .i64 0, .int .i64 0, .int .i64 0, .int .i64 0, .int .i64 0, .int .i64 0, .int .i64 0, .int .i64 0, .int .i64 0, .int .i64 0, .int .i64 0, .int .i64 0, .int .i64 0, .int .i64 0, .int .i64 0, .int .i64 0, .int .i64 0, .int .i64 0, .int .i64 0, .int .i64 0] 62)).setRow w1.heap.size (V (ext xs)).toArray = w3; have S1 : Hid (Arr w3 w1.heap.size (V (ext xs)) 62) := Lib.hid (by rw [← hw3]; exact ((Arr.new w1 (V zeros) _ rfl).alloc _).row); have S2 : Hid (Arr w3 (w1.heap.size + 1) (V zeros) 62) := Lib.hid (by rw [← hw3]; exact (Arr.new _ (V zeros) _ (by simp)).rowOther (by omega)); have B3 : Hid (Below w.heap.size w w3) := Lib.hid (by rw [← hw3]; exact arr.below_setRow ((B1.out.alloc B1.out.size _).alloc (by have := B1.out.size; simp; omega) _) B1.out.size _); clear hw3) | (refine wpList_store_row rfl 62 (.tmp 6) (.tmp 13) rfl (w1.heap.size + 1) (V (ext ys)).toArray rfl rfl 62 (V zeros).toArray S2.out (size_V (ext_len _)) (by simp [V_len, ext_len, zeros]) (one_V _) ?_; generalize hw4 : w3.setRow (w1.heap.size + 1) (V (ext ys)).toArray = w4; have T1 : Hid (Arr w4 w1.heap.size (V (ext xs)) 62) := Lib.hid (by rw [← hw4]; exact S1.out.rowOther (by omega)); have T2 : Hid (Arr w4 (w1.heap.size + 1) (V (ext ys)) 62) := Lib.hid (by rw [← hw4]; exact S2.out.row); have B4 : Hid (Below w.heap.size w w4) := Lib.hid (by rw [← hw4]; exact arr.below_setRow B3.out (by have := B1.out.size; omega) _); clear hw4 S1 S2 B3) | (refine wpList_load_row_g rfl 62 (.tmp 5) rfl w1.heap.size rfl 62 (V (ext xs)).toArray (0, 0) _ T1.out Try.underlying62 rfl (size_V (ext_len _)) ?_) | (refine wpList_load_row_g rfl 62 (.tmp 6) rfl (w1.heap.size + 1) rfl 62 (V (ext ys)).toArray (0, 0) _ T2.out Try.underlying62 rfl (size_V (ext_len _)) ?_))
    refine (count_any (ext xs) (ext ys) _ OX.out.sq OY.out.sq).mono ?_
    rintro e w2 ⟨rfl, b2⟩
    have B2 := Lib.hid (B4.out.trans (b2.mono B4.out.size))
    clear b2 B1 B4 T1 T2
    generalize (reach (ext xs) (ext ys) 0).length = r at *
    by_cases hr : r = n
    · subst hr
      go_wp2_with fail
      go_ret
      exact ⟨ret_bool (by rw [HF.out]; simp), B2.out⟩
    · have hq : ((r : Int) == (n : Int)) = false := by simp; omega
      have HR := Lib.hid hr; clear hr
      go_wp2_with fail
      go_ret
      exact ⟨ret_bool (by rw [HF.out, decide_eq_false HR.out]), B2.out⟩
  · have hall' : okBB xs ys = false := by simpa using hall
    have HF : Hid (transB xs ys = false) := Lib.hid (by simp [transB, hall'])
    have HA := Lib.hid hall'; clear hall hall'
    go_enter Try.func100, Try.ntmps100
    go_wp2_with fail
    refine (permsOf_any A n c B m d xs ys _ _ _ HX.out HY.out hn hm HX.out.2.1 HY.out.2.1).mono ?_
    rintro e w1 ⟨rfl, b1⟩
    rw [HA.out, if_neg (by decide), if_neg (by decide)]
    have B1 := Lib.hid b1; clear b1
    go_wp2_with (first | (refine wpList_store_row rfl 62 (.tmp 5) (.tmp 12) rfl w1.heap.size (V zeros).toArray rfl rfl 62 (V zeros).toArray ((Arr.new w1 (V zeros) _ rfl).alloc _) (size_V zeros_len) rfl (one_V _) ?_; generalize hw3 : ((w1.alloc (.cells #[.int .i64 0, .int .i64 0, .int .i64 0, .int .i64 0, .int .i64 0, .int .i64 0, .int .i64 0, .int .i64 0, .int .i64 0, .int .i64 0, .int .i64 0, .int .i64 0, .int .i64 0, .int .i64 0, .int .i64 0, .int .i64 0, .int .i64 0, .int .i64 0, .int .i64 0, .int .i64 0, .int .i64 0, .int .i64 0, .int .i64 0, .int .i64 0] 62)).alloc (.cells #[.int .i64 0, .int .i64 0, .int .i64 0, .int .i64 0, .int .i64 0, .int .i64 0, .int .i64 0, .int .i64 0, .int .i64 0, .int .i64 0, .int .i64 0, .int .i64 0, .int .i64 0, .int .i64 0, .int .i64 0, .int .i64 0, .int .i64 0, .int .i64 0, .int .i64 0, .int .i64 0, .int .i64 0, .int .i64 0, .int .i64 0, .int .i64 0] 62)).setRow w1.heap.size (V zeros).toArray = w3; have S1 : Hid (Arr w3 w1.heap.size (V zeros) 62) := Lib.hid (by rw [← hw3]; exact ((Arr.new w1 (V zeros) _ rfl).alloc _).row); have S2 : Hid (Arr w3 (w1.heap.size + 1) (V zeros) 62) := Lib.hid (by rw [← hw3]; exact (Arr.new _ (V zeros) _ (by simp)).rowOther (by omega)); have B3 : Hid (Below w.heap.size w w3) := Lib.hid (by rw [← hw3]; exact arr.below_setRow ((B1.out.alloc B1.out.size _).alloc (by have := B1.out.size; simp; omega) _) B1.out.size _); clear hw3) | (refine wpList_store_row rfl 62 (.tmp 6) (.tmp 13) rfl (w1.heap.size + 1) (V zeros).toArray rfl rfl 62 (V zeros).toArray S2.out (size_V zeros_len) rfl (one_V _) ?_; generalize hw4 : w3.setRow (w1.heap.size + 1) (V zeros).toArray = w4; have T1 : Hid (Arr w4 w1.heap.size (V zeros) 62) := Lib.hid (by rw [← hw4]; exact S1.out.rowOther (by omega)); have T2 : Hid (Arr w4 (w1.heap.size + 1) (V zeros) 62) := Lib.hid (by rw [← hw4]; exact S2.out.row); have B4 : Hid (Below w.heap.size w w4) := Lib.hid (by rw [← hw4]; exact arr.below_setRow B3.out (by have := B1.out.size; omega) _); clear hw4 S1 S2 B3))
    go_ret
    exact ⟨ret_bool HF.out.symm, B4.out⟩

set_option maxHeartbeats 2000000 in
theorem trans_impl_zero (A : Option Addr) (n c : Nat) (xs : List Int) (B : Option Addr) (m d : Nat) (ys : List Int) (h1 h2 : Nat) (w : World) (hx : Rd w h1 A n (V xs)) (hy : Rd w h2 B m (V ys)) (hn : n ≤ 1048576) (hm : m ≤ 1048576) (hn0 : n = 0) :
    Calls Try.prog 100 #[.slice A n c, .slice B m d] w fun e w' => e = .returned (.bool (transB xs ys)) ∧ Below w.heap.size w w' := by
  subst hn0
  have lx : xs.length = 0 := by simpa [V] using hx.1
  have ly : ys.length = m := by simpa [V] using hy.1
  have LX := Lib.hid lx; have LY := Lib.hid ly; clear lx ly
  have HX := Lib.hid hx; have HY := Lib.hid hy; clear hx hy
  by_cases hall : okBB xs ys = true
  · obtain ⟨ox, oy, el⟩ := okBB_iff.1 hall
    have OX := Lib.hid (Ok.of xs ox); have OY := Lib.hid (Ok.of ys oy)
    have hn24 : 0 ≤ 24 := by have := OX.out.len; rw [LX.out] at this; exact this
    have HF : Hid (transB xs ys = false) := Lib.hid (by simp [transB, LX.out])
    have HA := Lib.hid hall; clear hall ox oy el
    go_enter Try.func100, Try.ntmps100
    go_wp2_with fail
    refine (permsOf_any A 0 c B m d xs ys _ _ _ HX.out HY.out hn hm HX.out.2.1 HY.out.2.1).mono ?_
    rintro e w1 ⟨rfl, b1⟩
    rw [HA.out, if_pos rfl, if_pos rfl]
    have B1 := Lib.hid b1; clear b1
    go_wp2_with (first | (refine wpList_store_row rfl 62 (.tmp 5) (.tmp 12) rfl w1.heap.size (V (ext xs)).toArray rfl rfl 62 (V zeros).toArray ((Arr.new w1 (V zeros) _ rfl).alloc _) (size_V (ext_len _)) (by simp [V_len, ext_len, zeros]) (one_V _) ?_; generalize hw3 : ((w1.alloc (.cells #[.int .i64 0, .int .i64 0, .int .i64 0, .int .i64 0, .int .i64 0, .int .i64 0, .int .i64 0, .int .i64 0, .int .i64 0, .int .i64 0, .int .i64 0, .int .i64 0, .int .i64 0, .int .i64 0, .int .i64 0, .int .i64 0, .int .i64 0, .int .i64 0, .int .i64 0, .int .i64 0, .int .i64 0, .int .i64 0, .int .i64 0, .int .i64 0] 62)).alloc (.cells #[.int .i64 0, .int .i64 0, .int .i64 0, .int .i64 0, .int .i64 0, .int .i64 0, .int .i64 0, .int .i64 0, .int .i64 0, .int .i64 0, .int .i64 0, .int .i64 0, .int .i64 0, .int .i64 0, .int .i64 0, .int .i64 0, .int .i64 0, .int .i64 0, .int .i64 0, .int .i64 0, .int .i64 0, .int .i64 0, .int .i64 0, .int .i64 0] 62)).setRow w1.heap.size (V (ext xs)).toArray = w3; have S1 : Hid (Arr w3 w1.heap.size (V (ext xs)) 62) := Lib.hid (by rw [← hw3]; exact ((Arr.new w1 (V zeros) _ rfl).alloc _).row); have S2 : Hid (Arr w3 (w1.heap.size + 1) (V zeros) 62) := Lib.hid (by rw [← hw3]; exact (Arr.new _ (V zeros) _ (by simp)).rowOther (by omega)); have B3 : Hid (Below w.heap.size w w3) := Lib.hid (by rw [← hw3]; exact arr.below_setRow ((B1.out.alloc B1.out.size _).alloc (by have := B1.out.size; simp; omega) _) B1.out.size _); clear hw3) | (refine wpList_store_row rfl 62 (.tmp 6) (.tmp 13) rfl (w1.heap.size + 1) (V (ext ys)).toArray rfl rfl 62 (V zeros).toArray S2.out (size_V (ext_len _)) (by simp [V_len, ext_len, zeros]) (one_V _) ?_; generalize hw4 : w3.setRow (w1.heap.size + 1) (V (ext ys)).toArray = w4; have T1 : Hid (Arr w4 w1.heap.size (V (ext xs)) 62) := Lib.hid (by rw [← hw4]; exact S1.out.rowOther (by omega)); have T2 : Hid (Arr w4 (w1.heap.size + 1) (V (ext ys)) 62) := Lib.hid (by rw [← hw4]; exact S2.out.row); have B4 : Hid (Below w.heap.size w w4) := Lib.hid (by rw [← hw4]; exact arr.below_setRow B3.out (by have := B1.out.size; omega) _); clear hw4 S1 S2 B3))
    go_ret
    exact ⟨ret_bool HF.out.symm, B4.out⟩
  · have hall' : okBB xs ys = false := by simpa using hall
    have HF : Hid (transB xs ys = false) := Lib.hid (by simp [transB, hall'])
    have HA := Lib.hid hall'; clear hall hall'
    go_enter Try.func100, Try.ntmps100
    go_wp2_with fail
    refine (permsOf_any A 0 c B m d xs ys _ _ _ HX.out HY.out hn hm HX.out.2.1 HY.out.2.1).mono ?_
    rintro e w1 ⟨rfl, b1⟩
    rw [HA.out, if_neg (by decide), if_neg (by decide)]
    have B1 := Lib.hid b1; clear b1
    go_wp2_with (first | (refine wpList_store_row rfl 62 (.tmp 5) (.tmp 12) rfl w1.heap.size (V zeros).toArray rfl rfl 62 (V zeros).toArray ((Arr.new w1 (V zeros) _ rfl).alloc _) (size_V zeros_len) rfl (one_V _) ?_; generalize hw3 : ((w1.alloc (.cells #[.int .i64 0, .int .i64 0, .int .i64 0, .int .i64 0, .int .i64 0, .int .i64 0, .int .i64 0, .int .i64 0, .int .i64 0, .int .i64 0, .int .i64 0, .int .i64 0, .int .i64 0, .int .i64 0, .int .i64 0, .int .i64 0, .int .i64 0, .int .i64 0, .int .i64 0, .int .i64 0, .int .i64 0, .int .i64 0, .int .i64 0, .int .i64 0] 62)).alloc (.cells #[.int .i64 0, .int .i64 0, .int .i64 0, .int .i64 0, .int .i64 0, .int .i64 0, .int .i64 0, .int .i64 0, .int .i64 0, .int .i64 0, .int .i64 0, .int .i64 0, .int .i64 0, .int .i64 0, .int .i64 0, .int .i64 0, .int .i64 0, .int .i64 0, .int .i64 0, .int .i64 0, .int .i64 0, .int .i64 0, .int .i64 0, .int .i64 0] 62)).setRow w1.heap.size (V zeros).toArray = w3; have S1 : Hid (Arr w3 w1.heap.size (V zeros) 62) := Lib.hid (by rw [← hw3]; exact ((Arr.new w1 (V zeros) _ rfl).alloc _).row); have S2 : Hid (Arr w3 (w1.heap.size + 1) (V zeros) 62) := Lib.hid (by rw [← hw3]; exact (Arr.new _ (V zeros) _ (by simp)).rowOther (by omega)); have B3 : Hid (Below w.heap.size w w3) := Lib.hid (by rw [← hw3]; exact arr.below_setRow ((B1.out.alloc B1.out.size _).alloc (by have := B1.out.size; simp; omega) _) B1.out.size _); clear hw3) | (refine wpList_store_row rfl 62 (.tmp 6) (.tmp 13) rfl (w1.heap.size + 1) (V zeros).toArray rfl rfl 62 (V zeros).toArray S2.out (size_V zeros_len) rfl (one_V _) ?_; generalize hw4 : w3.setRow (w1.heap.size + 1) (V zeros).toArray = w4; have T1 : Hid (Arr w4 w1.heap.size (V zeros) 62) := Lib.hid (by rw [← hw4]; exact S1.out.rowOther (by omega)); have T2 : Hid (Arr w4 (w1.heap.size + 1) (V zeros) 62) := Lib.hid (by rw [← hw4]; exact S2.out.row); have B4 : Hid (Below w.heap.size w w4) := Lib.hid (by rw [← hw4]; exact arr.below_setRow B3.out (by have := B1.out.size; omega) _); clear hw4 S1 S2 B3))
    go_ret
    exact ⟨ret_bool HF.out.symm, B4.out⟩
theorem trans_impl (A : Option Addr) (n c : Nat) (xs : List Int) (B : Option Addr) (m d : Nat) (ys : List Int) (h1 h2 : Nat) (w : World) (hx : Rd w h1 A n (V xs)) (hy : Rd w h2 B m (V ys)) (hn : n ≤ 1048576) (hm : m ≤ 1048576) :
    Calls Try.prog 100 #[.slice A n c, .slice B m d] w fun e w' => e = .returned (.bool (transB xs ys)) ∧ Below w.heap.size w w' := by
  rcases Nat.eq_zero_or_pos n with h0 | h0
  · exact trans_impl_zero A n c xs B m d ys h1 h2 w hx hy hn hm h0
  · exact trans_impl_pos A n c xs B m d ys h1 h2 w hx hy hn hm h0
end Go.Proofs.Ytkkklpchkkdhfaa.fns

/-
  Contracts of spec.SameList, slices.Equal at ints, impl.SameList.
-/
namespace Go.Proofs.Ytkkklpchkkdhfaa.same
open Go.ChangeShapes Go.WideShapes Go.ChangeAt Go.RowKit
open Go.Proofs.Ytkkklpchkkdhfaa.mem Go.Proofs.Ytkkklpchkkdhfaa.ints
set_option linter.unusedVariables false
set_option maxRecDepth 100000

end Go.Proofs.Ytkkklpchkkdhfaa.same

/-
  Contracts of SurfaceOk, CountSquares, SameSurface, of the model and of the program.
-/
namespace Go.Proofs.Ytkkklpchkkdhfaa.sf
open Go.ChangeShapes Go.WideShapes Go.ChangeAt Go.RowKit
open Go.Proofs.Ytkkklpchkkdhfaa.mem Go.Proofs.Ytkkklpchkkdhfaa.ints Go.Proofs.Ytkkklpchkkdhfaa.arr Go.Proofs.Ytkkklpchkkdhfaa.pm Go.Proofs.Ytkkklpchkkdhfaa.fns
set_option linter.unusedVariables false
set_option maxRecDepth 100000

theorem Srd.open {w : World} {hi : Nat} {v : Value} {r u : List Int} (h : Srd w hi v r u) :
    ∃ P n c Q m d, v = .agg #[.slice P n c, .slice Q m d] ∧ r.length = n ∧ u.length = m ∧ n ≤ c ∧ m ≤ d ∧ hi ≤ w.heap.size ∧ Hid (∀ o, Rd (w.alloc o) hi P n (V r) ∧ Rd (w.alloc o) hi Q m (V u)) := by
  obtain ⟨P, n, c, Q, m, d, rfl, a, b, e1, e2⟩ := h
  exact ⟨P, n, c, Q, m, d, rfl, by simpa [V] using a.1, by simpa [V] using b.1, e1, e2, a.2.1, Lib.hid (fun o => ⟨a.keep ((Below.refl hi w).alloc a.2.1 o) (Nat.le_refl _), b.keep ((Below.refl hi w).alloc a.2.1 o) (Nat.le_refl _)⟩)⟩
theorem below1 (w : World) (o : Obj) {w' : World} (h : Below (w.alloc o).heap.size (w.alloc o) w') : Below w.heap.size w w' := ((Below.refl _ _).alloc (Nat.le_refl _) _).trans (h.mono (by simp))

set_option maxHeartbeats 400000 in
theorem ok_spec (v : Value) (r u : List Int) (hi : Nat) (w : World) (hx : Srd w hi v r u) (hn : r.length ≤ 1048576) (hm : u.length ≤ 1048576) :
    Calls Try.prog 66 #[v] w fun e w' => e = .returned (.bool (transB r u)) ∧ Below w.heap.size w w' := by
  obtain ⟨P, n, c, Q, m, d, rfl, q1, q2, e1, e2, ht, HR⟩ := hx.open
  clear hx
  go_enter Try.func66, Try.ntmps66
  go_wp2_with fail
  refine (trans_spec P n c r Q m d u _ _ _ (HR.out _).1 (HR.out _).2 (by omega) (by omega) e1 e2).mono ?_
  rintro e w1 ⟨rfl, b1⟩
  have B1 := Lib.hid (below1 _ _ b1); clear b1
  go_wp2_with fail
  go_ret
  exact ⟨rfl, B1.out⟩

set_option maxHeartbeats 400000 in
theorem ok_impl (v : Value) (r u : List Int) (hi : Nat) (w : World) (hx : Srd w hi v r u) (hn : r.length ≤ 1048576) (hm : u.length ≤ 1048576) :
    Calls Try.prog 83 #[v] w fun e w' => e = .returned (.bool (transB r u)) ∧ Below w.heap.size w w' := by
  obtain ⟨P, n, c, Q, m, d, rfl, q1, q2, e1, e2, ht, HR⟩ := hx.open
  clear hx
  go_enter Try.func83, Try.ntmps83
  go_wp2_with fail
  refine (trans_impl P n c r Q m d u _ _ _ (HR.out _).1 (HR.out _).2 (by omega) (by omega)).mono ?_
  rintro e w1 ⟨rfl, b1⟩
  have B1 := Lib.hid (below1 _ _ b1); clear b1
  go_wp2_with fail
  go_ret
  exact ⟨rfl, B1.out⟩

def cntF (r u : List Int) : Int := if transB r u then r.length else 0
def sameF (r u r' u' : List Int) : Bool := eqi r r' && eqi u u'
end Go.Proofs.Ytkkklpchkkdhfaa.sf

/-
  Contracts of RenamePerm, of the model and of the program.
-/
namespace Go.Proofs.Ytkkklpchkkdhfaa.fns
open Go.ChangeShapes Go.WideShapes Go.ChangeAt Go.RowKit
open Go.Proofs.Ytkkklpchkkdhfaa.mem Go.Proofs.Ytkkklpchkkdhfaa.ints Go.Proofs.Ytkkklpchkkdhfaa.arr Go.Proofs.Ytkkklpchkkdhfaa.pm Go.Proofs.Ytkkklpchkkdhfaa.permOk Go.Proofs.Ytkkklpchkkdhfaa.permOf Go.Proofs.Ytkkklpchkkdhfaa.inv
set_option linter.unusedVariables false
set_option maxRecDepth 100000

theorem Made.drew {n : Nat} {w wr : World} {l : List Int} (h : Made n w wr l) : Made n w wr.drew l := ⟨h.1.drew, ⟨h.2.os, h.2.tape, h.2.output, h.2.size, h.2.block⟩⟩
/-- All below base is as it was, and 'top' blocks are there. -/
structure Kp (base top : Nat) (w w' : World) : Prop where
  below : Below base w w'
  size : top ≤ w'.heap.size
theorem range_arr {w : World} {g : Nat} {cs : List Value} {t : TypeId} (h : Arr w g cs t) : w.rangeAt g 0 cs := fun j v hv => by rw [Nat.zero_add]; exact h.cell hv
theorem Kp.start {base a b top : Nat} {w W : World} {xs ys : List Value} {t : TypeId} (h1 : Arr W a xs t) (h2 : Arr W b ys t) (hb : Below base w W) (hs : top ≤ W.heap.size) :
    W.drew.rangeAt a 0 xs ∧ W.drew.rangeAt b 0 ys ∧ Kp base top w W.drew :=
  ⟨by simpa using range_arr h1, by simpa using range_arr h2, ⟨hb.os, hb.tape, hb.output, hb.size, hb.block⟩, hs⟩
theorem Kp.later {base a b top : Nat} {w W W' : World} {xs ys : List Value} (ha : a < top) (hb : b < top) (h : W.rangeAt a 0 xs ∧ W.rangeAt b 0 ys ∧ Kp base top w W) (hB : Below W.heap.size W W') (hw : base ≤ top) :
    W'.rangeAt a 0 xs ∧ W'.rangeAt b 0 ys ∧ Kp base top w W' := by
  obtain ⟨h1, h2, h3⟩ := h
  have hs := h3.size
  refine ⟨fun j v hv => ?_, fun j v hv => ?_, h3.below.trans (hB.mono (by omega)), Nat.le_trans hs hB.size⟩
  · rw [hB.cell (p := ⟨a, 0 + j, none⟩) (show a < _ by omega)]; exact h1 j v hv
  · rw [hB.cell (p := ⟨b, 0 + j, none⟩) (show b < _ by omega)]; exact h2 j v hv

end Go.Proofs.Ytkkklpchkkdhfaa.fns
