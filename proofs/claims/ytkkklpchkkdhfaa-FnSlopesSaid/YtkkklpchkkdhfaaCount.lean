/-
  Contract of the program's countReached; of IsTransitive, of the model and of the program.
-/
import Derived.Test.YtkkklpchkkdhfaaReach
namespace Go.Proofs.Ytkkklpchkkdhfaa.fns
open Go.ChangeShapes Go.WideShapes Go.ChangeAt Go.RowKit
open Go.Proofs.Ytkkklpchkkdhfaa.mem Go.Proofs.Ytkkklpchkkdhfaa.ints Go.Proofs.Ytkkklpchkkdhfaa.arr Go.Proofs.Ytkkklpchkkdhfaa.pm Go.Proofs.Ytkkklpchkkdhfaa.permOk Go.Proofs.Ytkkklpchkkdhfaa.permOf Go.Proofs.Ytkkklpchkkdhfaa.inv
set_option linter.unusedVariables false
set_option maxRecDepth 100000

/-- Two boxed permutations, the flags of l, and the row l that grows. -/
structure Cr (w wr : World) (ps qs : List Int) (v : Value) (l : List Int) : Prop where
  own : wr.ownsRow (w.heap.size + 3) 3 1 v l.length (V l)
  p : Arr wr w.heap.size (V ps) 62
  q : Arr wr (w.heap.size + 1) (V qs) 62
  met : Arr wr (w.heap.size + 2) (VB (flagsOf l)) 129
  below : Below w.heap.size w wr
theorem Cr.drew {w wr : World} {ps qs l : List Int} {v : Value} (h : Cr w wr ps qs v l) (n : Nat) : Cr w (wr.drewN n) ps qs v l := ⟨h.own, h.p, h.q, h.met, below_drewN h.below n⟩
theorem Cr.ne {w wr : World} {ps qs l : List Int} {v : Value} (h : Cr w wr ps qs v l) {k : Nat} (hk : k < w.heap.size + 3) : some k ≠ v.ownBlock := fun e => by
  have := (h.own.lt k e.symm).1; omega
theorem Cr.next {w wr w1 w' : World} {ps qs l : List Int} {v v' : Value} {z n : Nat} (h : Cr w wr ps qs v l) (hw1 : w1 = wr.setCell ⟨w.heap.size + 2, z, none⟩ (.bool true))
    (ho : w'.ownsRow (w.heap.size + 3) 3 1 v' (n + 1) (V l ++ [.int .i64 (z : Int)])) (hn : n = l.length) (hg : w1.grownBy w' v.ownBlock) (hz : ¬ (z : Int) ∈ l) : Cr w w' ps qs v' (add1 l (z : Int)) := by
  subst hn
  have e : V (add1 l (z : Int)) = V l ++ [.int .i64 (z : Int)] := by unfold add1; rw [if_neg hz]; simp [V]
  have el : (add1 l (z : Int)).length = l.length + 1 := by unfold add1; rw [if_neg hz]; simp
  have hp := h.p.lt; have hq := h.q.lt; have hm := h.met.lt
  have s1 : w1.heap.size = wr.heap.size := by rw [hw1]; simp [World.setCell]
  refine ⟨by rw [e, el]; exact ho, ?_, ?_, ?_, ?_⟩
  · exact (hg.block _ (by omega) (h.ne (by omega))).trans (by rw [hw1]; exact h.p.other (by omega) _)
  · exact (hg.block _ (by omega) (h.ne (by omega))).trans (by rw [hw1]; exact h.q.other (by omega) _)
  · refine (hg.block _ (by omega) (h.ne (by omega))).trans ?_
    have hh := h.met.set_ z (.bool true)
    rw [VB_set, flagsOf_add hz, ← hw1] at hh
    exact hh
  · refine Below.trans (b := w1) (by rw [hw1]; exact h.below.setCell (by simp) _) ?_
    exact (Below.refl _ _).grown hg (by have := h.below.size; omega) (fun k hk => by have := (h.own.lt k hk).1; omega)
theorem index_pair (a b : Int) (j : Nat) (hj : j < 2) (x : Int) (hx : [a, b].getD j 0 = x) (w : World) :
    (Instr.index 131 (.agg #[.int .i64 a, .int .i64 b]) (.int .i64 (j : Int))).run Try.prog w = .ok (.int .i64 x) w := by
  have hs : (sizeOf 3).run Try.prog w = .ok 1 w := by kernel_rfl
  have h2 : (V [a, b])[j]? = some (.int .i64 x) := by subst hx; exact V_getD (by simpa using hj)
  have h3 : (#[Value.int .i64 a, Value.int .i64 b] : Array Value) = (V [a, b]).toArray := rfl
  rw [h3]
  simp [Instr.index, asIntOf, run_underlying Try.underlying131, hj, hs, part, h2]
theorem pair_in {n : Nat} {a b x : Int} {j : Nat} (hj : j < 2) (hx : [a, b].getD j 0 = x) (a0 : 0 ≤ a) (a1 : a < n) (b0 : 0 ≤ b) (b1 : b < n) : ∃ z : Nat, x = (z : Int) ∧ z < n := by
  subst hx
  match j, hj with
  | 0, _ => exact ⟨a.toNat, by simp; omega, by omega⟩
  | 1, _ => exact ⟨b.toNat, by simp; omega, by omega⟩

set_option maxHeartbeats 2000000 in
theorem count_any (ps qs : List Int) (w : World) (hp : Sq ps) (hq : Sq qs) :
    Calls Try.prog 110 #[.agg (V ps).toArray, .agg (V qs).toArray] w fun e w' => e = .returned (.int .i64 (reach ps qs 0).length) ∧ Below w.heap.size w w' := by
  obtain ⟨i0, hi0, hz0, hz1, hz2⟩ := info_parts infoI
  have MX := Lib.hid (Sq.maps hp); have MY := Lib.hid (Sq.maps hq)
  have LX := Lib.hid hp.len; have LY := Lib.hid hq.len
  clear hp hq
  go_enter Try.func110, Try.ntmps110
  go_wp2
  go_loopw [6, 7] (fun v i wr => ∃ k : Nat, k ≤ 24 ∧ i = .int .i64 k ∧ Cr w wr ps qs v (rs ps qs 0 k) ∧ k ≤ (rs ps qs 0 k).length) (fun _ i _ => 24 - (intOf i).toNat)
  case atStart =>
    refine ⟨0, Nat.zero_le _, rfl, ⟨?_, ?_, ?_, ?_, ?_⟩, Nat.zero_le _⟩
    · exact ⟨rfl, .inr ⟨w.heap.size + 3, 1, #[.int .i64 0], rfl, Nat.le_refl _, Arr.new _ (V [0]) _ (by simp), Nat.le_refl _, by unfold maxLen; omega, rfl, rfl⟩⟩
    · exact (((Arr.new w (V ps) _ rfl).alloc _).alloc _).alloc _
    · exact ((Arr.new _ (V qs) _ (by simp)).alloc _).alloc _
    · exact (Arr.new _ (VB (flagsOf [0])) _ (by simp)).alloc _
    · exact ((((Below.refl _ _).alloc (Nat.le_refl _) _).alloc (by simp) _).alloc (by simp; omega) _).alloc (by simp; omega) _
  case round =>
    obtain ⟨k, hk, rfl, hm, hle⟩ := hrel
    obtain ⟨wo, rfl⟩ : ∃ wo : World, wo = wr := ⟨_, rfl⟩
    have IN := Lib.hid (rs_in MX.out MY.out (f := 0) (by omega) (by omega) k)
    have hln : (rs ps qs 0 k).length ≤ 24 := IN.out.len
    obtain ⟨C, cc, rfl⟩ := own_form hm.own
    have HR := Lib.hid hm; clear hm
    by_cases hlt : k < (rs ps qs 0 k).length
    · obtain ⟨z, hz, hzs, hzd⟩ := IN.out.at_ hlt
      have RO := Row.of_own HR.out.own
      obtain ⟨go, oo, uo, rfl, hgo, hgo2, huo, hco, hfo⟩ := RO.at_ hlt
      rw [V_get hzs] at huo
      obtain rfl := Option.some.inj huo
      have hcp := HR.out.p.cell (V_getD (l := ps) (k := z) (by rw [LX.out]; exact hz))
      have hcq := HR.out.q.cell (V_getD (l := qs) (k := z) (by rw [LY.out]; exact hz))
      have a01 := MX.out z hz; have b01 := MY.out z hz
      have STEP : Hid (rs ps qs 0 (k + 1) = mid (rs ps qs 0 k) (ps.getD z 0) (qs.getD z 0) 2) := Lib.hid (by rw [rs_step ps qs 0 hlt hzd]; rfl)
      generalize ps.getD z 0 = a at *
      generalize qs.getD z 0 = b at *
      obtain ⟨a0, a1⟩ := a01; obtain ⟨b0, b1⟩ := b01
      have LE : Hid (k + 1 ≤ (rs ps qs 0 (k + 1)).length) := Lib.hid (rs_le ps qs 0 hlt)
      have MI : Hid (∀ j, In 24 (mid (rs ps qs 0 k) a b j)) := Lib.hid (mid_in IN.out a0 a1 b0 b1)
      clear hzs hzd huo RO hfo
      go_wp2
      go_region
      go_wp2
      go_loopw [6, 30] (fun v i wr => ∃ j : Nat, j ≤ 2 ∧ i = .int .i64 j ∧ Cr w wr ps qs v (mid (rs ps qs 0 k) a b j)) (fun _ i _ => 2 - (intOf i).toNat)
      case atStart => exact ⟨0, Nat.zero_le _, rfl, HR.out.drew 1⟩
      case round =>
        obtain ⟨j, hj, rfl, hmid⟩ := hrel
        have hln2 : (mid (rs ps qs 0 k) a b j).length ≤ 24 := (MI.out j).len
        obtain ⟨C2, cc2, rfl⟩ := own_form hmid.own
        have HMI := Lib.hid hmid; clear hmid
        by_cases hj2 : j < 2
        · generalize hq : [a, b].getD j 0 = x
          have MS := Lib.hid (mid_step (rs ps qs 0 k) a b hj2 hq)
          have hix := index_pair a b j hj2 x hq
          obtain ⟨y, rfl, hy⟩ := pair_in hj2 hq a0 a1 b0 b1
          clear hq
          have hsz : w.heap.size + 3 ≤ wr.heap.size := HMI.out.met.lt
          by_cases hh : (y : Int) ∈ mid (rs ps qs 0 k) a b j
          · have hfl : wr.cell? ⟨w.heap.size + 2, y, none⟩ = some (.bool true) := flags_cell HMI.out.met hy (by simpa using hh)
            have EQ : Hid (mid (rs ps qs 0 k) a b (j + 1) = mid (rs ps qs 0 k) a b j) := Lib.hid (by rw [MS.out]; unfold add1; rw [if_pos hh])
            clear hh
            go_wp2
            go_roundw
            case rel => exact ⟨j + 1, by omega, by go_num, by rw [EQ.out]; exact HMI.out⟩
            case measure => simp [intOf]; omega
          · have hfl : wr.cell? ⟨w.heap.size + 2, y, none⟩ = some (.bool false) := flags_cell HMI.out.met hy (by simpa using hh)
            have hff := HMI.out.met.frozen y
            have HH := Lib.hid hh
            have OW : Hid ((wr.setCell ⟨w.heap.size + 2, y, none⟩ (.bool true)).ownsRow (w.heap.size + 3) 3 1 (.slice C2 (mid (rs ps qs 0 k) a b j).length cc2) (mid (rs ps qs 0 k) a b j).length (V (mid (rs ps qs 0 k) a b j))) := Lib.hid (by
              refine HMI.out.own.kept (row := some (w.heap.size + 2)) ⟨rfl, rfl, rfl, by simp [World.setCell], fun i hi hne => heap_setCell_other _ _ _ _ (fun e => hne (by rw [e]))⟩ (.inr (fun e => HMI.out.ne (k := w.heap.size + 2) (by omega) e.symm)))
            clear hh
            generalize hw1 : wr.setCell ⟨w.heap.size + 2, y, none⟩ (.bool true) = w1 at OW
            have HW1 := Lib.hid hw1
            have hsz1 : w.heap.size + 3 ≤ w1.heap.size := by rw [← hw1]; simpa [World.setCell] using hsz
            go_wp2_with (at_builtin; refine wpList_append_one w1 _ _ rfl _ _ 30 rfl (w.heap.size + 3) 3 i0 _ 8 Try.underlying30 hi0 hz0 hz1 hz2 rfl _ _ _ rfl OW.out rfl rfl ?c4 (by decide) hsz1 ?_)
            case c4 => omega
            intro v' w' ho hg
            have HN : Hid (Cr w w' ps qs v' (mid (rs ps qs 0 k) a b (j + 1))) := Lib.hid (by rw [MS.out]; exact HMI.out.next HW1.out.symm ho rfl hg HH.out)
            clear ho hg HMI hw1 hfl hff
            go_wp2
            go_roundw
            case rel => exact ⟨j + 1, by omega, by go_num, HN.out⟩
            case measure => simp [intOf]; omega
        · obtain rfl : j = 2 := by omega
          have HN : Hid (Cr w wr ps qs (.slice C2 (mid (rs ps qs 0 k) a b 2).length cc2) (rs ps qs 0 (k + 1))) := Lib.hid (by rw [STEP.out]; exact HMI.out)
          go_wp2
          go_roundw
          case rel => exact ⟨k + 1, by omega, by go_num, HN.out, LE.out⟩
          case measure => simp [intOf]; omega
    · have e : k = (rs ps qs 0 k).length := by omega
      have R : Hid (rs ps qs 0 k = reach ps qs 0) := Lib.hid (reach_of LX.out hk (by omega))
      have hd : decide (k < (rs ps qs 0 k).length) = false := by simp; omega
      clear e
      go_wp2
      go_ret
      exact ⟨by rw [R.out]; rfl, HR.out.below⟩
end Go.Proofs.Ytkkklpchkkdhfaa.fns
