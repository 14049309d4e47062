/-
  Contracts of impl.permOf, impl.permsOf.
-/
import Derived.Test.YtkkklpchkkdhfaaPermOk
namespace Go.Proofs.Ytkkklpchkkdhfaa.permOf
open Go.ChangeShapes Go.WideShapes Go.ChangeAt Go.RowKit
open Go.Proofs.Ytkkklpchkkdhfaa.mem Go.Proofs.Ytkkklpchkkdhfaa.ints Go.Proofs.Ytkkklpchkkdhfaa.arr Go.Proofs.Ytkkklpchkkdhfaa.pm Go.Proofs.Ytkkklpchkkdhfaa.permOk
set_option linter.unusedVariables false
set_option maxRecDepth 100000

theorem results_cell_tmp {P : Program} {fn : Func} {p q : Tmp} {ty : TypeId} (h : fn.results = #[.cell p ty, .tmp q]) (tmps : Array Value) (w : World) (g : Nat) (t : TypeId) (cs : Array Value) (fr : Nat × Nat) (d : TypeDesc) (v : Value)
    (hp : tmps.getD p undef = .pointer (some ⟨g, 0, none⟩)) (hq : tmps.getD q undef = v) (hg : w.heap[g]? = some (.cells cs t fr))
    (hu : P.underlying ty = some d) (hd : (match d with | .struct _ | .array _ _ => true | _ => false) = true) (hi : (P.info? ty).map (·.size) = some cs.size) :
    (results fn tmps).run P w = .ok (.tuple #[.agg cs, v]) w := by
  have hp' : tmps[p]?.getD undef = .pointer (some ⟨g, 0, none⟩) := by simpa using hp
  have hq' : tmps[q]?.getD undef = v := by simpa using hq
  simp [results, h, hp', hq', asAddr, run_loadVar_row w g t ty cs fr d hg hu hd hi]
theorem results_cell2_tmp {P : Program} {fn : Func} {p p2 q : Tmp} {ty : TypeId} (h : fn.results = #[.cell p ty, .cell p2 ty, .tmp q]) (tmps : Array Value) (w : World) (g g2 : Nat) (t : TypeId) (cs cs2 : Array Value) (fr : Nat × Nat) (d : TypeDesc) (v : Value)
    (hp : tmps.getD p undef = .pointer (some ⟨g, 0, none⟩)) (hp2 : tmps.getD p2 undef = .pointer (some ⟨g2, 0, none⟩)) (hq : tmps.getD q undef = v) (hg : w.heap[g]? = some (.cells cs t fr)) (hg2 : w.heap[g2]? = some (.cells cs2 t fr))
    (hu : P.underlying ty = some d) (hd : (match d with | .struct _ | .array _ _ => true | _ => false) = true) (hi : (P.info? ty).map (·.size) = some cs.size) (hi2 : (P.info? ty).map (·.size) = some cs2.size) :
    (results fn tmps).run P w = .ok (.tuple #[.agg cs, .agg cs2, v]) w := by
  have hp' : tmps[p]?.getD undef = .pointer (some ⟨g, 0, none⟩) := by simpa using hp
  have hp2' : tmps[p2]?.getD undef = .pointer (some ⟨g2, 0, none⟩) := by simpa using hp2
  have hq' : tmps[q]?.getD undef = v := by simpa using hq
  simp [results, h, hp', hp2', hq', asAddr, run_loadVar_row w g t ty cs fr d hg hu hd hi, run_loadVar_row w g2 t ty cs2 fr d hg2 hu hd hi2]

def VB (l : List Bool) : List Value := l.map Value.bool
theorem VB_set (l : List Bool) (k : Nat) (b : Bool) : (VB l).set k (.bool b) = VB (l.set k b) := by simp [VB, List.map_set]
theorem flags_cell {w : World} {g : Nat} {f : Nat → Bool} {t : TypeId} (h : Arr w g (VB (tabB f)) t) {k : Nat} (hk : k < 24) {b : Bool} (hb : f k = b) : w.cell? ⟨g, k, none⟩ = some (.bool b) :=
  h.cell (by simp [VB, tabB_at f hk, hb])

def PRel (xs : List Int) (R G : Nat) (w wr : World) (k : Nat) : Prop :=
  Arr wr R (V zeros) 62 ∧ Arr wr G (V (extTo xs k)) 62 ∧ Arr wr (G + 1) (VB (flags xs k)) 129 ∧ Below w.heap.size w wr ∧ OkTo xs k
def PermPost (xs : List Int) (w : World) (e : Ending) (w' : World) : Prop := e = .returned (.tuple #[.agg (V (pv xs)).toArray, .bool (okB xs)]) ∧ Below w.heap.size w w'
theorem post_no {xs : List Int} {w w' : World} (h : okB xs = false) (hb : Below w.heap.size w w') : PermPost xs w (.returned (.tuple #[.agg (V zeros).toArray, .bool false])) w' := by
  refine ⟨?_, hb⟩
  unfold pv
  simp [h]
theorem post_yes {xs : List Int} {w w' : World} (h : okB xs = true) (hb : Below w.heap.size w w') : PermPost xs w (.returned (.tuple #[.agg (V (ext xs)).toArray, .bool true])) w' := by
  refine ⟨?_, hb⟩
  unfold pv
  simp [h]
theorem flags_zero (xs : List Int) : flags xs 0 = List.replicate 24 false := by
  simp only [flags, List.take_zero, List.not_mem_nil, decide_false]; decide

set_option maxHeartbeats 1000000 in
theorem permOf_any (A : Option Addr) (n c : Nat) (xs : List Int) (hi : Nat) (w : World) (hx : Rd w hi A n (V xs)) (hn : n ≤ 1048576) :
    Calls Try.prog 101 #[.slice A n c] w (PermPost xs w) := by
  have lx : xs.length = n := by simpa [V] using hx.1
  have LX := Lib.hid lx; clear lx
  have HX := Lib.hid hx; clear hx
  by_cases h24 : 24 < n
  · have E := Lib.hid (okB_long (xs := xs) (by rw [LX.out]; exact h24))
    have N := Lib.hid (Arr.new w (V zeros) 62 rfl)
    go_enter Try.func101, Try.ntmps101
    go_wp2_with (refine wpList_store_row rfl 62 _ _ rfl w.heap.size (V zeros).toArray rfl rfl 62 (V zeros).toArray N.out (size_V zeros_len) rfl (one_V _) ?_)
    exact bodyPost_ret (v := .tuple #[.agg (V zeros).toArray, .bool false]) (results_cell_tmp rfl _ _ w.heap.size 62 (V zeros).toArray (0, 0) _ _ rfl rfl N.out.row Try.underlying62 rfl (size_V zeros_len)) rfl (post_no E.out (below_setRow ((Below.refl _ _).alloc (Nat.le_refl _) _) (Nat.le_refl _) _))
  have N := Lib.hid (Arr.new w (V zeros) 62 rfl)
  go_enter Try.func101, Try.ntmps101
  go_wp2_with fail
  refine (staying_any _).mono ?_
  rintro e w1 ⟨rfl, b1⟩
  have hs1 : w.heap.size + 1 ≤ w1.heap.size := by have := b1.size; simpa using this
  have A1 := Lib.hid (N.out.keep b1 (by simp))
  have B1 : Hid (Below w.heap.size w w1) := Lib.hid (((Below.refl _ _).alloc (Nat.le_refl _) _).trans (b1.mono (by simp)))
  clear b1
  go_wp2_with (refine wpList_store_row rfl 62 _ _ rfl w1.heap.size (V idl).toArray rfl rfl 62 (V zeros).toArray (Arr.new w1 (V zeros) _ rfl) (size_V (tab_len _)) rfl (one_V _) ?_)
  go_loopw [15] (fun i wr => ∃ k : Nat, k ≤ n ∧ i = .int .i64 k ∧ PRel xs w.heap.size w1.heap.size w wr k) (fun i _ => n - (intOf i).toNat)
  case atStart =>
    refine ⟨0, Nat.zero_le _, rfl, ((A1.out.alloc _).rowOther (by omega)).alloc _, ?_, ?_, (below_setRow (B1.out.alloc B1.out.size _) (by omega) _).alloc (by simp; omega) _, fun i hi => by omega⟩
    · rw [extTo_zero]
      exact (Arr.new w1 (V zeros) _ rfl).row.alloc _
    · rw [flags_zero]
      exact Arr.new _ (VB (List.replicate 24 false)) _ (by simp)
  case round =>
    obtain ⟨k, hk, rfl, hp⟩ := hrel
    have HP := Lib.hid hp; clear hp
    by_cases hlt : k < n
    · obtain ⟨g, off, u, rfl, hgl, hxu, hcx⟩ := HX.out.at_ hlt
      obtain ⟨s, hxs, rfl⟩ := V_at hxu
      have HG := Lib.hid (getD_of hxs)
      clear hxs hxu
      have hgw : g < w.heap.size := Nat.lt_of_lt_of_le hgl HX.out.2.1
      rw [← HP.out.2.2.2.1.cell (p := ⟨g, off + k, none⟩) hgw] at hcx
      clear hgl hgw
      have arm := HP.out.1
      have ARM := Lib.hid arm; clear arm
      by_cases hbad : s < 0 ∨ (n : Int) ≤ s
      · have HF : Hid (okB xs = false) := Lib.hid (okB_bad (k := k) (by rw [LX.out]; exact hlt) (by rw [HG.out, LX.out]; omega))
        by_cases hneg : s < 0
        · clear hbad
          go_wp2_with (refine wpList_store_row rfl 62 _ _ rfl w.heap.size (V zeros).toArray rfl rfl 62 (V zeros).toArray ARM.out (size_V zeros_len) rfl (one_V _) ?_)
          exact bodyPost_ret (v := .tuple #[.agg (V zeros).toArray, .bool false]) (results_cell_tmp rfl _ _ w.heap.size 62 (V zeros).toArray (0, 0) _ _ rfl rfl ARM.out.row Try.underlying62 rfl (size_V zeros_len)) rfl (post_no HF.out (below_setRow HP.out.2.2.2.1 (Nat.le_refl _) _))
        · have hge : (n : Int) ≤ s := by omega
          have hd : decide (s < 0) = false := by simp; omega
          clear hbad
          go_wp2_with (refine wpList_store_row rfl 62 _ _ rfl w.heap.size (V zeros).toArray rfl rfl 62 (V zeros).toArray ARM.out (size_V zeros_len) rfl (one_V _) ?_)
          exact bodyPost_ret (v := .tuple #[.agg (V zeros).toArray, .bool false]) (results_cell_tmp rfl _ _ w.heap.size 62 (V zeros).toArray (0, 0) _ _ rfl rfl ARM.out.row Try.underlying62 rfl (size_V zeros_len)) rfl (post_no HF.out (below_setRow HP.out.2.2.2.1 (Nat.le_refl _) _))
      · have i1 : 0 ≤ s := by omega
        have i2 : s < n := by omega
        clear hbad
        obtain ⟨z, rfl⟩ := Int.eq_ofNat_of_zero_le i1
        have hz : z < n := by omega
        have hz24 : z < 24 := by omega
        clear i1 i2
        by_cases hin : (z : Int) ∈ xs.take k
        · have HF : Hid (okB xs = false) := Lib.hid (okB_dup (k := k) (by rw [LX.out]; exact hlt) (by rw [HG.out]; exact hin))
          have hfl : wr.cell? ⟨w1.heap.size + 1, z, none⟩ = some (.bool true) := flags_cell HP.out.2.2.1 hz24 (by simpa using hin)
          clear hin
          go_wp2_with (refine wpList_store_row rfl 62 _ _ rfl w.heap.size (V zeros).toArray rfl rfl 62 (V zeros).toArray ARM.out (size_V zeros_len) rfl (one_V _) ?_)
          exact bodyPost_ret (v := .tuple #[.agg (V zeros).toArray, .bool false]) (results_cell_tmp rfl _ _ w.heap.size 62 (V zeros).toArray (0, 0) _ _ rfl rfl ARM.out.row Try.underlying62 rfl (size_V zeros_len)) rfl (post_no HF.out (below_setRow HP.out.2.2.2.1 (Nat.le_refl _) _))
        · have hfl : wr.cell? ⟨w1.heap.size + 1, z, none⟩ = some (.bool false) := flags_cell HP.out.2.2.1 hz24 (by simpa using hin)
          have hff := HP.out.2.2.1.frozen z
          have hc2 : wr.cell? ⟨w1.heap.size, k, none⟩ = some (.int .i64 ((extTo xs k).getD k 0)) := HP.out.2.1.cell (V_getD (by rw [extTo, tab_len]; omega))
          have hf2 := HP.out.2.1.frozen k
          have HIN := Lib.hid hin; clear hin
          go_wp2
          go_roundw
          case rel =>
            refine ⟨k + 1, by omega, by go_num, (HP.out.1.other (by omega) _).other (by omega) _, ?_, ?_, (HP.out.2.2.2.1.setCell (by simp; omega) _).setCell (by simp; omega) _, HP.out.2.2.2.2.step (by rw [LX.out]; exact hlt) (by rw [HG.out]; omega) (by rw [HG.out, LX.out]; omega) (by rw [HG.out]; exact HIN.out)⟩
            · have h := (HP.out.2.1.other (k := z) (g' := w1.heap.size + 1) (by omega) (.bool true)).set_ k (.int .i64 (z : Int))
              rw [V_set, ← HG.out, extTo_step] at h
              rw [← HG.out]
              exact h
            · have h := HP.out.2.2.1.set_ z (.bool true)
              rw [VB_set, flags_step (by rw [LX.out]; exact hlt) HG.out] at h
              exact h.other (by omega) _
          case measure => simp [intOf]; omega
    · obtain rfl : k = n := by omega
      have HY : Hid (okB xs = true) := Lib.hid (okB_yes (by rw [LX.out]; omega) (by rw [LX.out]; exact HP.out.2.2.2.2))
      have h2 := HP.out.2.1
      rw [← LX.out] at h2
      have H2 : Hid (Arr wr w1.heap.size (V (ext xs)) 62) := Lib.hid h2
      have H1 := Lib.hid HP.out.1; have HB := Lib.hid HP.out.2.2.2.1
      clear h2 HP
      go_wp2_with (first | (refine wpList_load_row rfl 62 _ rfl w1.heap.size rfl 62 (V (ext xs)).toArray (0, 0) _ H2.out Try.underlying62 rfl (size_V (ext_len _)) ?_) | (refine wpList_store_row rfl 62 _ _ rfl w.heap.size (V (ext xs)).toArray rfl rfl 62 (V zeros).toArray H1.out (size_V (ext_len _)) (by simp [V_len, ext_len, zeros]) (one_V _) ?_))
      exact bodyPost_ret (v := .tuple #[.agg (V (ext xs)).toArray, .bool true]) (results_cell_tmp rfl _ _ w.heap.size 62 (V (ext xs)).toArray (0, 0) _ _ rfl rfl H1.out.row Try.underlying62 rfl (size_V (ext_len _))) rfl (post_yes HY.out (below_setRow HB.out (Nat.le_refl _) _))

end Go.Proofs.Ytkkklpchkkdhfaa.permOf
