import Derived.Test.YtkkklpchkkdhfaaY01
import Derived.Laws.CopyOwn
import Derived.RegionTactic
import Derived.BigRegion
/-
  Contracts of spec.l01In, spec.l02Has, spec.PermOk.
-/
namespace Go.Proofs.Ytkkklpchkkdhfaa.permOk
open Go.ChangeShapes Go.WideShapes Go.ChangeAt Go.RowKit
open Go.Proofs.Ytkkklpchkkdhfaa.mem Go.Proofs.Ytkkklpchkkdhfaa.ints Go.Proofs.Ytkkklpchkkdhfaa.arr Go.Proofs.Ytkkklpchkkdhfaa.pm
set_option linter.unusedVariables false
set_option maxRecDepth 100000

theorem in_yes (x a b : Int) (w : World) (h1 : a ≤ x) (h2 : x ≤ b) :
    Calls Try.prog 61 #[.int .i64 x, .int .i64 a, .int .i64 b] w fun e w' => e = .returned (.bool true) ∧ w = w' := by
  go_enter Try.func61, Try.ntmps61
  go_wp2
  go_ret
  exact ⟨rfl, rfl⟩
theorem in_no (x a b : Int) (w : World) (h : x < a ∨ b < x) :
    Calls Try.prog 61 #[.int .i64 x, .int .i64 a, .int .i64 b] w fun e w' => e = .returned (.bool false) ∧ w = w' := by
  by_cases h1 : x < a
  · clear h
    have hd : decide (a ≤ x) = false := by simp; omega
    go_enter Try.func61, Try.ntmps61
    go_wp2
    go_ret
    exact ⟨rfl, rfl⟩
  · have h2 : b < x := by omega
    have hd : decide (x ≤ b) = false := by simp; omega
    clear h
    go_enter Try.func61, Try.ntmps61
    go_wp2
    go_ret
    exact ⟨rfl, rfl⟩

def hasB (xs : List Int) (z : Int) : Bool := decide (z ∈ xs)
theorem take_no {xs : List Int} {k : Nat} {z s : Int} (h : ¬ z ∈ xs.take k) (hk : xs[k]? = some s) (hs : ¬ s = z) : ¬ z ∈ xs.take (k + 1) := by
  rw [List.take_add_one, hk]
  simp
  exact ⟨h, fun e => hs e.symm⟩

set_option maxHeartbeats 400000 in
theorem has_any (A : Option Addr) (n c : Nat) (xs : List Int) (hi : Nat) (z : Int) (w : World) (hx : Rd w hi A n (V xs)) (hn : n ≤ 1048576) :
    Calls Try.prog 109 #[.slice A n c, .int .i64 z] w fun e w' => e = .returned (.bool (hasB xs z)) ∧ w = w' := by
  have lx : xs.length = n := by simpa [V] using hx.1
  have LX := Lib.hid lx; clear lx
  have HX := Lib.hid hx; clear hx
  go_enter Try.func109, Try.ntmps109
  go_wp2
  go_loop [9] (fun i => ∃ k : Nat, k ≤ n ∧ i = .int .i64 k ∧ Hid (¬ z ∈ xs.take k)) (fun i => n - (intOf i).toNat)
  case atStart => exact ⟨0, Nat.zero_le _, rfl, Lib.hid (by simp)⟩
  case round =>
    obtain ⟨k, hk, rfl, HN⟩ := hrel
    by_cases hlt : k < n
    · obtain ⟨g, off, u, rfl, _, hxu, hcx⟩ := HX.out.at_ hlt
      obtain ⟨s, hxs, rfl⟩ := V_at hxu
      have HS := Lib.hid hxs; clear hxs hxu
      by_cases hst : s = z
      · subst hst
        go_wp2
        go_ret
        refine ⟨ret_bool ?_, rfl⟩
        unfold hasB; rw [eq_comm, decide_eq_true_iff]; exact List.mem_of_getElem? HS.out
      · have hb : (s == z) = false := by simpa using hst
        have HST := Lib.hid hst; clear hst
        go_wp2
        go_round
        case rel => exact ⟨k + 1, by omega, by go_num, Lib.hid (take_no HN.out HS.out HST.out)⟩
        case measure => simp [intOf]; omega
    · obtain rfl : k = n := by omega
      go_wp2
      go_ret
      refine ⟨ret_bool ?_, rfl⟩
      unfold hasB; rw [eq_comm, decide_eq_false_iff_not]
      have := HN.out
      rw [List.take_of_length_le (by rw [LX.out]; exact Nat.le_refl _)] at this
      exact this

theorem Rd.take {w : World} {hi n k : Nat} {A : Option Addr} {xs : List Int} (h : Rd w hi A n (V xs)) (hk : k ≤ n) : Rd w hi A k (V (xs.take k)) := by
  have hl : xs.length = n := by simpa [V] using h.1
  refine ⟨by simp [V]; omega, h.2.1, fun h0 => ?_⟩
  obtain ⟨g, off, e, hlt, hc⟩ := h.2.2 (by omega)
  refine ⟨g, off, e, hlt, fun j hj => ?_⟩
  rw [hc j (by omega)]
  simp [V, hj]
theorem getD_of {xs : List Int} {k : Nat} {s : Int} (h : xs[k]? = some s) : xs.getD k 0 = s := by simp [List.getD, h]

set_option maxHeartbeats 800000 in
theorem spec_any (A : Option Addr) (n c : Nat) (xs : List Int) (hi : Nat) (w : World) (hx : Rd w hi A n (V xs)) (hn : n ≤ 1048576) (hc : n ≤ c) :
    Calls Try.prog 98 #[.slice A n c] w fun e w' => e = .returned (.bool (okB xs)) ∧ w = w' := by
  have lx : xs.length = n := by simpa [V] using hx.1
  have LX := Lib.hid lx; clear lx
  have HX := Lib.hid hx; clear hx
  by_cases h24 : 24 < n
  · have e := Lib.hid (okB_long (xs := xs) (by rw [LX.out]; exact h24))
    go_enter Try.func98, Try.ntmps98
    go_wp2
    go_ret
    exact ⟨ret_bool e.out.symm, rfl⟩
  go_enter Try.func98, Try.ntmps98
  go_wp2
  go_loop [10] (fun i => ∃ k : Nat, k ≤ n ∧ i = .int .i64 k ∧ Hid (OkTo xs k)) (fun i => n - (intOf i).toNat)
  case atStart => exact ⟨0, Nat.zero_le _, rfl, Lib.hid (fun i hi => by omega)⟩
  case round =>
    obtain ⟨k, hk, rfl, HO⟩ := hrel
    by_cases hlt : k < n
    · obtain ⟨g, off, u, rfl, _, hxu, hcx⟩ := HX.out.at_ hlt
      obtain ⟨s, hxs, rfl⟩ := V_at hxu
      have HG := Lib.hid (getD_of hxs)
      clear hxs hxu
      by_cases hin : 0 ≤ s ∧ s ≤ (n : Int) - 1
      · obtain ⟨i1, i2⟩ := hin
        by_cases hh : hasB (xs.take k) s = true
        · have HF : Hid (okB xs = false) := Lib.hid (okB_dup (by rw [LX.out]; exact hlt) (by rw [HG.out]; simpa [hasB] using hh))
          have HH := Lib.hid hh; clear hh
          go_wp2_with (go_at_call 61; refine (in_yes _ _ _ _ i1 i2).mono ?_; rintro e w' ⟨rfl, rfl⟩)
          refine (has_any _ k _ (xs.take k) _ s _ (Rd.take HX.out (by omega)) (by omega)).mono ?_
          rintro e w' ⟨rfl, rfl⟩
          rw [HH.out]
          go_wp2
          go_ret
          exact ⟨ret_bool HF.out.symm, rfl⟩
        · have hh' : hasB (xs.take k) s = false := by simpa using hh
          have HH := Lib.hid hh'; clear hh hh'
          go_wp2_with (go_at_call 61; refine (in_yes _ _ _ _ i1 i2).mono ?_; rintro e w' ⟨rfl, rfl⟩)
          refine (has_any _ k _ (xs.take k) _ s _ (Rd.take HX.out (by omega)) (by omega)).mono ?_
          rintro e w' ⟨rfl, rfl⟩
          rw [HH.out]
          go_wp2
          go_round
          case rel => exact ⟨k + 1, by omega, by go_num, Lib.hid (HO.out.step (by rw [LX.out]; exact hlt) (by rw [HG.out]; exact i1) (by rw [HG.out, LX.out]; omega) (by rw [HG.out]; simpa [hasB] using HH.out))⟩
          case measure => simp [intOf]; omega
      · have hno : s < 0 ∨ (n : Int) - 1 < s := by omega
        have HF : Hid (okB xs = false) := Lib.hid (okB_bad (k := k) (by rw [LX.out]; exact hlt) (by rw [HG.out, LX.out]; omega))
        clear hin
        go_wp2_with (go_at_call 61; refine (in_no _ _ _ _ hno).mono ?_; rintro e w' ⟨rfl, rfl⟩)
        go_ret
        exact ⟨ret_bool HF.out.symm, rfl⟩
    · obtain rfl : k = n := by omega
      go_wp2
      go_ret
      exact ⟨ret_bool (okB_yes (by rw [LX.out]; omega) (by rw [LX.out]; exact HO.out)).symm, rfl⟩
end Go.Proofs.Ytkkklpchkkdhfaa.permOk

/-
  Contracts of impl.permOf, impl.permsOf.
-/
namespace Go.Proofs.Ytkkklpchkkdhfaa.permOf
open Go.ChangeShapes Go.WideShapes Go.ChangeAt Go.RowKit
open Go.Proofs.Ytkkklpchkkdhfaa.mem Go.Proofs.Ytkkklpchkkdhfaa.ints Go.Proofs.Ytkkklpchkkdhfaa.arr Go.Proofs.Ytkkklpchkkdhfaa.pm Go.Proofs.Ytkkklpchkkdhfaa.permOk
set_option linter.unusedVariables false
set_option maxRecDepth 100000

theorem results_cell_tmp {P : Program} {fn : Func} {p q : Tmp} {ty : TypeId} (h : fn.results = #[.cell p ty, .tmp q]) (tmps : Array Value) (w : World) (g : Nat) (t : TypeId) (cs : Array Value) (fr : Nat × Nat) (d : TypeDesc) (v : Value)
    (hp : tmps.getD p undef = .pointer (some ⟨g, 0, none⟩)) (hq : tmps.getD q undef = v) (hg : w.heap[g]? = some (.cells cs t fr))
    (hu : P.underlying ty = some d) (hd : (match d with | .struct _ | .array _ _ => true | _ => false) = true) (hi : (P.info? ty).map (·.size) = some cs.size) :
    (results fn tmps).run P w = .ok (.tuple #[.agg cs, v]) w := by
  have hp' : tmps[p]?.getD undef = .pointer (some ⟨g, 0, none⟩) := by simpa using hp
  have hq' : tmps[q]?.getD undef = v := by simpa using hq
  simp [results, h, hp', hq', asAddr, run_loadVar_row w g t ty cs fr d hg hu hd hi]
theorem results_cell2_tmp {P : Program} {fn : Func} {p p2 q : Tmp} {ty : TypeId} (h : fn.results = #[.cell p ty, .cell p2 ty, .tmp q]) (tmps : Array Value) (w : World) (g g2 : Nat) (t : TypeId) (cs cs2 : Array Value) (fr : Nat × Nat) (d : TypeDesc) (v : Value)
    (hp : tmps.getD p undef = .pointer (some ⟨g, 0, none⟩)) (hp2 : tmps.getD p2 undef = .pointer (some ⟨g2, 0, none⟩)) (hq : tmps.getD q undef = v) (hg : w.heap[g]? = some (.cells cs t fr)) (hg2 : w.heap[g2]? = some (.cells cs2 t fr))
    (hu : P.underlying ty = some d) (hd : (match d with | .struct _ | .array _ _ => true | _ => false) = true) (hi : (P.info? ty).map (·.size) = some cs.size) (hi2 : (P.info? ty).map (·.size) = some cs2.size) :
    (results fn tmps).run P w = .ok (.tuple #[.agg cs, .agg cs2, v]) w := by
  have hp' : tmps[p]?.getD undef = .pointer (some ⟨g, 0, none⟩) := by simpa using hp
  have hp2' : tmps[p2]?.getD undef = .pointer (some ⟨g2, 0, none⟩) := by simpa using hp2
  have hq' : tmps[q]?.getD undef = v := by simpa using hq
  simp [results, h, hp', hp2', hq', asAddr, run_loadVar_row w g t ty cs fr d hg hu hd hi, run_loadVar_row w g2 t ty cs2 fr d hg2 hu hd hi2]

def VB (l : List Bool) : List Value := l.map Value.bool
theorem VB_set (l : List Bool) (k : Nat) (b : Bool) : (VB l).set k (.bool b) = VB (l.set k b) := by simp [VB, List.map_set]
theorem flags_cell {w : World} {g : Nat} {f : Nat → Bool} {t : TypeId} (h : Arr w g (VB (tabB f)) t) {k : Nat} (hk : k < 24) {b : Bool} (hb : f k = b) : w.cell? ⟨g, k, none⟩ = some (.bool b) :=
  h.cell (by simp [VB, tabB_at f hk, hb])

def PRel (xs : List Int) (R G : Nat) (w wr : World) (k : Nat) : Prop :=
  Arr wr R (V zeros) 62 ∧ Arr wr G (V (extTo xs k)) 62 ∧ Arr wr (G + 1) (VB (flags xs k)) 129 ∧ Below w.heap.size w wr ∧ OkTo xs k
def PermPost (xs : List Int) (w : World) (e : Ending) (w' : World) : Prop := e = .returned (.tuple #[.agg (V (pv xs)).toArray, .bool (okB xs)]) ∧ Below w.heap.size w w'
theorem post_no {xs : List Int} {w w' : World} (h : okB xs = false) (hb : Below w.heap.size w w') : PermPost xs w (.returned (.tuple #[.agg (V zeros).toArray, .bool false])) w' := by
  refine ⟨?_, hb⟩
  unfold pv
  simp [h]
theorem post_yes {xs : List Int} {w w' : World} (h : okB xs = true) (hb : Below w.heap.size w w') : PermPost xs w (.returned (.tuple #[.agg (V (ext xs)).toArray, .bool true])) w' := by
  refine ⟨?_, hb⟩
  unfold pv
  simp [h]
theorem flags_zero (xs : List Int) : flags xs 0 = List.replicate 24 false := by
  simp only [flags, List.take_zero, List.not_mem_nil, decide_false]; decide

set_option maxHeartbeats 1000000 in
theorem permOf_any (A : Option Addr) (n c : Nat) (xs : List Int) (hi : Nat) (w : World) (hx : Rd w hi A n (V xs)) (hn : n ≤ 1048576) :
    Calls Try.prog 101 #[.slice A n c] w (PermPost xs w) := by
  have lx : xs.length = n := by simpa [V] using hx.1
  have LX := Lib.hid lx; clear lx
  have HX := Lib.hid hx; clear hx
  by_cases h24 : 24 < n
  · have E := Lib.hid (okB_long (xs := xs) (by rw [LX.out]; exact h24))
    have N := Lib.hid (Arr.new w (V zeros) 62 rfl)
    go_enter Try.func101, Try.ntmps101
    go_wp2_with (refine wpList_store_row rfl 62 _ _ rfl w.heap.size (V zeros).toArray rfl rfl 62 (V zeros).toArray N.out (size_V zeros_len) rfl (one_V _) ?_)
    exact bodyPost_ret (v := .tuple #[.agg (V zeros).toArray, .bool false]) (results_cell_tmp rfl _ _ w.heap.size 62 (V zeros).toArray (0, 0) _ _ rfl rfl N.out.row Try.underlying62 rfl (size_V zeros_len)) rfl (post_no E.out (below_setRow ((Below.refl _ _).alloc (Nat.le_refl _) _) (Nat.le_refl _) _))
  have N := Lib.hid (Arr.new w (V zeros) 62 rfl)
  go_enter Try.func101, Try.ntmps101
  go_wp2_with fail
  refine (staying_any _).mono ?_
  rintro e w1 ⟨rfl, b1⟩
  have hs1 : w.heap.size + 1 ≤ w1.heap.size := by have := b1.size; simpa using this
  have A1 := Lib.hid (N.out.keep b1 (by simp))
  have B1 : Hid (Below w.heap.size w w1) := Lib.hid (((Below.refl _ _).alloc (Nat.le_refl _) _).trans (b1.mono (by simp)))
  clear b1
  go_wp2_with (refine wpList_store_row rfl 62 _ _ rfl w1.heap.size (V idl).toArray rfl rfl 62 (V zeros).toArray (Arr.new w1 (V zeros) _ rfl) (size_V (tab_len _)) rfl (one_V _) ?_)
  go_loopw [15] (fun i wr => ∃ k : Nat, k ≤ n ∧ i = .int .i64 k ∧ PRel xs w.heap.size w1.heap.size w wr k) (fun i _ => n - (intOf i).toNat)
  case atStart =>
    refine ⟨0, Nat.zero_le _, rfl, ((A1.out.alloc _).rowOther (by omega)).alloc _, ?_, ?_, (below_setRow (B1.out.alloc B1.out.size _) (by omega) _).alloc (by simp; omega) _, fun i hi => by omega⟩
    · rw [extTo_zero]
      exact (Arr.new w1 (V zeros) _ rfl).row.alloc _
    · rw [flags_zero]
      exact Arr.new _ (VB (List.replicate 24 false)) _ (by simp)
  case round =>
    obtain ⟨k, hk, rfl, hp⟩ := hrel
    have HP := Lib.hid hp; clear hp
    by_cases hlt : k < n
    · obtain ⟨g, off, u, rfl, hgl, hxu, hcx⟩ := HX.out.at_ hlt
      obtain ⟨s, hxs, rfl⟩ := V_at hxu
      have HG := Lib.hid (getD_of hxs)
      clear hxs hxu
      have hgw : g < w.heap.size := Nat.lt_of_lt_of_le hgl HX.out.2.1
      rw [← HP.out.2.2.2.1.cell (p := ⟨g, off + k, none⟩) hgw] at hcx
      clear hgl hgw
      have arm := HP.out.1
      have ARM := Lib.hid arm; clear arm
      by_cases hbad : s < 0 ∨ (n : Int) ≤ s
      · have HF : Hid (okB xs = false) := Lib.hid (okB_bad (k := k) (by rw [LX.out]; exact hlt) (by rw [HG.out, LX.out]; omega))
        by_cases hneg : s < 0
        · clear hbad
          go_wp2_with (refine wpList_store_row rfl 62 _ _ rfl w.heap.size (V zeros).toArray rfl rfl 62 (V zeros).toArray ARM.out (size_V zeros_len) rfl (one_V _) ?_)
          exact bodyPost_ret (v := .tuple #[.agg (V zeros).toArray, .bool false]) (results_cell_tmp rfl _ _ w.heap.size 62 (V zeros).toArray (0, 0) _ _ rfl rfl ARM.out.row Try.underlying62 rfl (size_V zeros_len)) rfl (post_no HF.out (below_setRow HP.out.2.2.2.1 (Nat.le_refl _) _))
        · have hge : (n : Int) ≤ s := by omega
          have hd : decide (s < 0) = false := by simp; omega
          clear hbad
          go_wp2_with (refine wpList_store_row rfl 62 _ _ rfl w.heap.size (V zeros).toArray rfl rfl 62 (V zeros).toArray ARM.out (size_V zeros_len) rfl (one_V _) ?_)
          exact bodyPost_ret (v := .tuple #[.agg (V zeros).toArray, .bool false]) (results_cell_tmp rfl _ _ w.heap.size 62 (V zeros).toArray (0, 0) _ _ rfl rfl ARM.out.row Try.underlying62 rfl (size_V zeros_len)) rfl (post_no HF.out (below_setRow HP.out.2.2.2.1 (Nat.le_refl _) _))
      · have i1 : 0 ≤ s := by omega
        have i2 : s < n := by omega
        clear hbad
        obtain ⟨z, rfl⟩ := Int.eq_ofNat_of_zero_le i1
        have hz : z < n := by omega
        have hz24 : z < 24 := by omega
        clear i1 i2
        by_cases hin : (z : Int) ∈ xs.take k
        · have HF : Hid (okB xs = false) := Lib.hid (okB_dup (k := k) (by rw [LX.out]; exact hlt) (by rw [HG.out]; exact hin))
          have hfl : wr.cell? ⟨w1.heap.size + 1, z, none⟩ = some (.bool true) := flags_cell HP.out.2.2.1 hz24 (by simpa using hin)
          clear hin
          go_wp2_with (refine wpList_store_row rfl 62 _ _ rfl w.heap.size (V zeros).toArray rfl rfl 62 (V zeros).toArray ARM.out (size_V zeros_len) rfl (one_V _) ?_)
          exact bodyPost_ret (v := .tuple #[.agg (V zeros).toArray, .bool false]) (results_cell_tmp rfl _ _ w.heap.size 62 (V zeros).toArray (0, 0) _ _ rfl rfl ARM.out.row Try.underlying62 rfl (size_V zeros_len)) rfl (post_no HF.out (below_setRow HP.out.2.2.2.1 (Nat.le_refl _) _))
        · have hfl : wr.cell? ⟨w1.heap.size + 1, z, none⟩ = some (.bool false) := flags_cell HP.out.2.2.1 hz24 (by simpa using hin)
          have hff := HP.out.2.2.1.frozen z
          have hc2 : wr.cell? ⟨w1.heap.size, k, none⟩ = some (.int .i64 ((extTo xs k).getD k 0)) := HP.out.2.1.cell (V_getD (by rw [extTo, tab_len]; omega))
          have hf2 := HP.out.2.1.frozen k
          have HIN := Lib.hid hin; clear hin
          go_wp2
          go_roundw
          case rel =>
            refine ⟨k + 1, by omega, by go_num, (HP.out.1.other (by omega) _).other (by omega) _, ?_, ?_, (HP.out.2.2.2.1.setCell (by simp; omega) _).setCell (by simp; omega) _, HP.out.2.2.2.2.step (by rw [LX.out]; exact hlt) (by rw [HG.out]; omega) (by rw [HG.out, LX.out]; omega) (by rw [HG.out]; exact HIN.out)⟩
            · have h := (HP.out.2.1.other (k := z) (g' := w1.heap.size + 1) (by omega) (.bool true)).set_ k (.int .i64 (z : Int))
              rw [V_set, ← HG.out, extTo_step] at h
              rw [← HG.out]
              exact h
            · have h := HP.out.2.2.1.set_ z (.bool true)
              rw [VB_set, flags_step (by rw [LX.out]; exact hlt) HG.out] at h
              exact h.other (by omega) _
          case measure => simp [intOf]; omega
    · obtain rfl : k = n := by omega
      have HY : Hid (okB xs = true) := Lib.hid (okB_yes (by rw [LX.out]; omega) (by rw [LX.out]; exact HP.out.2.2.2.2))
      have h2 := HP.out.2.1
      rw [← LX.out] at h2
      have H2 : Hid (Arr wr w1.heap.size (V (ext xs)) 62) := Lib.hid h2
      have H1 := Lib.hid HP.out.1; have HB := Lib.hid HP.out.2.2.2.1
      clear h2 HP
      go_wp2_with (first | (refine wpList_load_row rfl 62 _ rfl w1.heap.size rfl 62 (V (ext xs)).toArray (0, 0) _ H2.out Try.underlying62 rfl (size_V (ext_len _)) ?_) | (refine wpList_store_row rfl 62 _ _ rfl w.heap.size (V (ext xs)).toArray rfl rfl 62 (V zeros).toArray H1.out (size_V (ext_len _)) (by simp [V_len, ext_len, zeros]) (one_V _) ?_))
      exact bodyPost_ret (v := .tuple #[.agg (V (ext xs)).toArray, .bool true]) (results_cell_tmp rfl _ _ w.heap.size 62 (V (ext xs)).toArray (0, 0) _ _ rfl rfl H1.out.row Try.underlying62 rfl (size_V (ext_len _))) rfl (post_yes HY.out (below_setRow HB.out (Nat.le_refl _) _))

end Go.Proofs.Ytkkklpchkkdhfaa.permOf

/-
  Contracts of the methods of impl.perm: list, inverse, then.
-/
namespace Go.Proofs.Ytkkklpchkkdhfaa.inv
open Go.ChangeShapes Go.WideShapes Go.ChangeAt Go.RowKit
open Go.Proofs.Ytkkklpchkkdhfaa.mem Go.Proofs.Ytkkklpchkkdhfaa.ints Go.Proofs.Ytkkklpchkkdhfaa.arr Go.Proofs.Ytkkklpchkkdhfaa.pm Go.Proofs.Ytkkklpchkkdhfaa.permOk Go.Proofs.Ytkkklpchkkdhfaa.permOf
set_option linter.unusedVariables false
set_option maxRecDepth 100000

/-- All numbers are from 0 up to 24. -/
structure Sq (qs : List Int) : Prop where
  len : qs.length = 24
  lo : ∀ i, i < 24 → 0 ≤ qs.getD i 0
  hi : ∀ i, i < 24 → qs.getD i 0 < 24
theorem Sq.at_ {qs : List Int} (h : Sq qs) {i : Nat} (hi : i < 24) : ∃ z : Nat, z < 24 ∧ qs[i]? = some (z : Int) ∧ qs.getD i 0 = (z : Int) := by
  have h1 := h.lo i hi; have h2 := h.hi i hi
  have e : qs[i]? = some (qs.getD i 0) := by rw [List.getD, List.getElem?_eq_getElem (by rw [h.len]; exact hi)]; rfl
  exact ⟨(qs.getD i 0).toNat, by omega, by rw [e]; congr 1; omega, by omega⟩

theorem index_row (l : List Int) (k : Nat) (z : Int) (hk : k < 24) (hz : l[k]? = some z) (w : World) :
    (Instr.index 62 (.agg (V l).toArray) (.int .i64 (k : Int))).run Try.prog w = .ok (.int .i64 z) w := by
  have hs : (sizeOf 3).run Try.prog w = .ok 1 w := by kernel_rfl
  have h2 : (V l)[k]? = some (.int .i64 z) := V_get hz
  simp [Instr.index, asIntOf, run_underlying Try.underlying62, hk, hs, part, h2]

/-- Where k up to n goes under the inverse of qs, as far as the first k elements say. -/
def invTo (n : Nat) (qs : List Int) : Nat → List Int
  | 0 => List.replicate n 0
  | k + 1 => (invTo n qs k).set (qs.getD k 0).toNat (k : Int)
theorem invTo_len (n : Nat) (qs : List Int) (k : Nat) : (invTo n qs k).length = n := by
  induction k with
  | zero => simp [invTo]
  | succ k ih => simp [invTo, ih]
def InvRel (qs : List Int) (w wr : World) (k : Nat) : Prop :=
  Arr wr (w.heap.size + 1) (V zeros) 62 ∧ Arr wr (w.heap.size + 2) (V (invTo 24 qs k)) 62 ∧ Below w.heap.size w wr

/-- First ps, then qs. -/
def thenL (ps qs : List Int) : List Int := tab fun i => qs.getD (ps.getD i 0).toNat 0
def ThenRel (ps qs : List Int) (w wr : World) (k : Nat) : Prop :=
  Arr wr (w.heap.size + 1) (V qs) 62 ∧ Arr wr (w.heap.size + 2) (V zeros) 62 ∧ Arr wr (w.heap.size + 3) (V (tab fun i => if i < k then qs.getD (ps.getD i 0).toNat 0 else 0)) 62 ∧ Below w.heap.size w wr

set_option maxHeartbeats 1000000 in
theorem then_any (ps qs : List Int) (w : World) (hp : Sq ps) (hq : Sq qs) :
    Calls Try.prog 86 #[.agg (V ps).toArray, .agg (V qs).toArray] w fun e w' => e = .returned (.agg (V (thenL ps qs)).toArray) ∧ Below w.heap.size w w' := by
  have HP := Lib.hid hp; have HQ := Lib.hid hq; clear hp hq
  go_enter Try.func86, Try.ntmps86
  go_wp2_with (refine wpList_load_row rfl 62 _ rfl w.heap.size rfl 62 (V ps).toArray (0, 0) _ ((((Arr.new w (V ps) 62 rfl).alloc _).alloc _).alloc _) Try.underlying62 rfl (size_V HP.out.len) ?_)
  go_loopw [9] (fun i wr => ∃ k : Nat, k ≤ 24 ∧ i = .int .i64 k ∧ ThenRel ps qs w wr k) (fun i _ => 24 - (intOf i).toNat)
  case atStart =>
    exact ⟨0, Nat.zero_le _, rfl, ((Arr.new _ (V qs) _ (by simp)).alloc _).alloc _, (Arr.new _ (V zeros) _ (by simp)).alloc _, Arr.new _ (V zeros) _ (by simp), ((((Below.refl _ _).alloc (Nat.le_refl _) _).alloc (by simp) _).alloc (by simp; omega) _).alloc (by simp; omega) _⟩
  case round =>
    obtain ⟨k, hk, rfl, hr⟩ := hrel
    have HR := Lib.hid hr; clear hr
    by_cases hlt : k < 24
    · obtain ⟨z, hz, hqz, hqd⟩ := HP.out.at_ hlt
      have hvz := index_row ps k z hlt hqz
      have HD := Lib.hid hqd; clear hqz hqd
      have hcq : wr.cell? ⟨w.heap.size + 1, z, none⟩ = some (.int .i64 (qs.getD z 0)) := HR.out.1.cell (V_getD (by rw [HQ.out.len]; exact hz))
      have hc : wr.cell? ⟨w.heap.size + 3, k, none⟩ = some (.int .i64 ((tab fun i => if i < k then qs.getD (ps.getD i 0).toNat 0 else 0).getD k 0)) := HR.out.2.2.1.cell (V_getD (by rw [tab_len]; exact hlt))
      have hf := HR.out.2.2.1.frozen k
      go_wp2
      go_roundw
      case rel =>
        refine ⟨k + 1, by omega, by go_num, HR.out.1.other (by omega) _, HR.out.2.1.other (by omega) _, ?_, HR.out.2.2.2.setCell (by simp; omega) _⟩
        have h := HR.out.2.2.1.set_ k (.int .i64 (qs.getD z 0))
        rw [V_set] at h
        have e := tab_set (fun i => if i < k then qs.getD (ps.getD i 0).toNat 0 else 0) (fun i => if i < k + 1 then qs.getD (ps.getD i 0).toNat 0 else 0) (k := k) (fun j hj => by
          by_cases e : j = k
          · subst e; simp
          · simp only [if_neg e]; split <;> split <;> first | rfl | omega)
        simp only [Nat.lt_succ_self, if_true] at e
        rw [HD.out, Int.toNat_natCast] at e
        rw [e] at h
        exact h
      case measure => simp [intOf]; omega
    · obtain rfl : k = 24 := by omega
      have er : (tab fun i => if i < 24 then qs.getD (ps.getD i 0).toNat 0 else 0) = thenL ps qs := by
        unfold thenL tab
        refine List.map_congr_left fun i hi => ?_
        simp at hi
        simp [hi]
      have H1 := Lib.hid HR.out.2.1; have h2 := HR.out.2.2.1; have HB := Lib.hid HR.out.2.2.2; clear HR
      rw [er] at h2
      have H2 := Lib.hid h2; clear h2 er
      have HL : Hid ((thenL ps qs).length = 24) := Lib.hid (tab_len _)
      generalize hr : thenL ps qs = r at H2 HL
      have HRR := Lib.hid hr; clear hr
      go_wp2_with (first | (refine wpList_load_row rfl 62 (.tmp 5) rfl (w.heap.size + 3) rfl 62 (V r).toArray (0, 0) _ H2.out Try.underlying62 rfl (size_V HL.out) ?_) | (refine wpList_store_row rfl 62 (.tmp 4) (.tmp 19) rfl (w.heap.size + 2) (V r).toArray rfl rfl 62 (V zeros).toArray H1.out (size_V HL.out) (by simp [V_len, HL.out, zeros]) (one_V _) ?_))
      exact bodyPost_ret (v := .agg (V r).toArray) (results_cell_row rfl _ _ (w.heap.size + 2) 62 (V r).toArray (0, 0) _ rfl H1.out.row Try.underlying62 rfl (size_V HL.out)) rfl ⟨by rw [HRR.out], arr.below_setRow HB.out (by omega) _⟩

theorem slice_row (b n : Nat) (w : World) (hn : n ≤ 24) :
    (Instr.sliceAt 62 (.pointer (some ⟨b, 0, none⟩)) none (some (.int .i64 (n : Int))) none).run Try.prog w = .ok (.slice (some ⟨b, 0, none⟩) n 24) w := by
  have h := run_sliceAt_array_h (P := Try.prog) (t := 62) (w := w) (a := ⟨b, 0, none⟩) Try.underlying62 .i64 (n : Int) (by omega) (by show (n : Int) ≤ 24; omega)
  exact h.trans (by kernel_rfl)
end Go.Proofs.Ytkkklpchkkdhfaa.inv

/-
  Contract of impl.permsOf.
-/
namespace Go.Proofs.Ytkkklpchkkdhfaa.permOf
open Go.ChangeShapes Go.WideShapes Go.ChangeAt Go.RowKit
open Go.Proofs.Ytkkklpchkkdhfaa.mem Go.Proofs.Ytkkklpchkkdhfaa.ints Go.Proofs.Ytkkklpchkkdhfaa.arr Go.Proofs.Ytkkklpchkkdhfaa.pm Go.Proofs.Ytkkklpchkkdhfaa.permOk
set_option linter.unusedVariables false
set_option maxRecDepth 100000

def okBB (xs ys : List Int) : Bool := okB xs && okB ys && decide (xs.length = ys.length)
def PermsPost (xs ys : List Int) (w : World) (e : Ending) (w' : World) : Prop :=
  e = .returned (.tuple #[.agg (V (if okBB xs ys then ext xs else zeros)).toArray, .agg (V (if okBB xs ys then ext ys else zeros)).toArray, .bool (okBB xs ys)]) ∧ Below w.heap.size w w'
theorem posts_no {xs ys : List Int} {w w' : World} (h : okBB xs ys = false) (hb : Below w.heap.size w w') : PermsPost xs ys w (.returned (.tuple #[.agg (V zeros).toArray, .agg (V zeros).toArray, .bool false])) w' := by
  refine ⟨?_, hb⟩
  simp [h]
theorem posts_yes {xs ys : List Int} {w w' : World} (h : okBB xs ys = true) (hb : Below w.heap.size w w') : PermsPost xs ys w (.returned (.tuple #[.agg (V (ext xs)).toArray, .agg (V (ext ys)).toArray, .bool true])) w' := by
  refine ⟨?_, hb⟩
  simp [h]

theorem step_load_row {P : Program} {ops : Array Oper} {o : Oper} {a : Act} {w : World} {K : Act → World → Prop} {Q : Exit → Act → World → Prop} {E : Prop} (hgd : o.guard = none) (ty : TypeId) (x : Operand) (ho : o.op = .load ty x)
    (g : Nat) (hx : a.eval x = .pointer (some ⟨g, 0, none⟩)) (t : TypeId) (cs : Array Value) (fr : Nat × Nat) (d : TypeDesc) (hg : w.heap[g]? = some (.cells cs t fr))
    (hu : P.underlying ty = some d) (hd : (match d with | .struct _ | .array _ _ => true | _ => false) = true) (hi : (P.info? ty).map (·.size) = some cs.size)
    (h : K (a.put o.dst (.agg cs)) w) : if Region.wanted o (yielded ops a.tmps) = true then Oper.wp P o a w K Q else E := by
  have hw : Region.wanted o (yielded ops a.tmps) = true := by simp [Region.wanted, hgd]
  rw [if_pos hw]
  exact wp_load_row ty x ho g hx t cs fr d hg hu hd hi h
theorem step_store_row {P : Program} {ops : Array Oper} {o : Oper} {a : Act} {w : World} {K : Act → World → Prop} {Q : Exit → Act → World → Prop} {E : Prop} (hgd : o.guard = none) (ty : TypeId) (x y : Operand) (ho : o.op = .store ty x y)
    (g : Nat) (cells : Array Value) (hx : a.eval x = .pointer (some ⟨g, 0, none⟩)) (hy : a.eval y = .agg cells)
    (t : TypeId) (old : Array Value) (hg : w.heap[g]? = some (.cells old t (0, 0))) (hi : (P.info? ty).map (·.size) = some cells.size)
    (hold : old.size = cells.size) (h1 : cells.all (·.oneCell') = true)
    (h : K (a.put o.dst undef) (w.setRow g cells)) : if Region.wanted o (yielded ops a.tmps) = true then Oper.wp P o a w K Q else E := by
  have hw : Region.wanted o (yielded ops a.tmps) = true := by simp [Region.wanted, hgd]
  rw [if_pos hw]
  exact wp_store_row ty x y ho g cells hx hy t old hg hi hold h1 h
theorem step_assign {P : Program} {ops : Array Oper} {o : Oper} {a : Act} {w : World} {K : Act → World → Prop} {Q : Exit → Act → World → Prop} {E : Prop} (hgd : o.guard = none) (x : Operand) (ho : o.op = .assign x)
    (h : K (a.put o.dst (a.eval x)) w) : if Region.wanted o (yielded ops a.tmps) = true then Oper.wp P o a w K Q else E := by
  have hw : Region.wanted o (yielded ops a.tmps) = true := by simp [Region.wanted, hgd]
  rw [if_pos hw]
  unfold Oper.wp execOp
  simp only [ho, Sem.run_pure]
  exact h
theorem below_drew1 {B : Nat} {a w : World} (h : Below B a w) : Below B a { w with drawn := w.drawn + 1 } := ⟨h.os, h.tape, h.output, h.size, h.block⟩
set_option maxHeartbeats 2000000 in
theorem permsOf_any (A : Option Addr) (n c : Nat) (B : Option Addr) (m d : Nat) (xs ys : List Int) (h1 h2 : Nat) (w : World) (hx : Rd w h1 A n (V xs)) (hy : Rd w h2 B m (V ys)) (hn : n ≤ 1048576) (hm : m ≤ 1048576) (hh1 : h1 ≤ w.heap.size) (hh2 : h2 ≤ w.heap.size) :
    Calls Try.prog 84 #[.slice A n c, .slice B m d] w (PermsPost xs ys w) := by
  have lx : xs.length = n := by simpa [V] using hx.1
  have ly : ys.length = m := by simpa [V] using hy.1
  have LX := Lib.hid lx; have LY := Lib.hid ly; clear lx ly
  have HX := Lib.hid hx; have HY := Lib.hid hy; clear hx hy
  have N0 := Lib.hid ((Arr.new w (V zeros) 62 rfl).alloc (.cells (V zeros).toArray 62))
  have N1 := Lib.hid (Arr.new (w.alloc (.cells (V zeros).toArray 62)) (V zeros) 62 (g := w.heap.size + 1) (by simp))
  have B0 := Lib.hid (((Below.refl w.heap.size w).alloc (Nat.le_refl _) (.cells (V zeros).toArray 62)).alloc (by simp) (.cells (V zeros).toArray 62))
  go_enter Try.func84, Try.ntmps84
  go_wp2_with fail
  refine (permOf_any A n c xs _ _ (HX.out.keep B0.out hh1) hn).mono ?_
  rintro e w1 ⟨rfl, b1⟩
  have hs1 : w.heap.size + 2 ≤ w1.heap.size := by have := b1.size; simpa using this
  have P0 := Lib.hid (N0.out.keep b1 (by simp; omega)); have P1 := Lib.hid (N1.out.keep b1 (by simp))
  have B1 := Lib.hid (B0.out.trans (b1.mono B0.out.size))
  clear b1 N0 N1 B0
  have Q1 := Lib.hid ((Arr.new w1 (V zeros) 62 rfl).row (cs' := V (pv xs)))
  go_wp2_with (refine wpList_store_row rfl 62 _ _ rfl w1.heap.size (V (pv xs)).toArray rfl rfl 62 (V zeros).toArray (Arr.new w1 (V zeros) _ rfl) (size_V (pv_len _)) (by simp [V_len, pv_len, zeros]) (one_V _) ?_)
  refine (permOf_any B m d ys _ _ (HY.out.keep (below_setRow (B1.out.alloc B1.out.size _) (by omega) _) hh2) hm).mono ?_
  rintro e w2 ⟨rfl, b2⟩
  have hs2 : w1.heap.size + 1 ≤ w2.heap.size := by have := b2.size; simpa using this
  have R0 := Lib.hid (((P0.out.alloc _).rowOther (by omega)).keep b2 (by simp; omega))
  have R1 := Lib.hid (((P1.out.alloc _).rowOther (by omega)).keep b2 (by simp; omega))
  have R2 := Lib.hid ((Arr.new w1 (V zeros) _ rfl).row.keep b2 (by simp))
  have B2 := Lib.hid ((below_setRow (B1.out.alloc B1.out.size _) (by omega) _).trans (b2.mono (by simp; omega)))
  clear b2 P0 P1 Q1 B1
  by_cases hall : okB xs = true ∧ okB ys = true ∧ n = m
  · obtain ⟨ox, oy, rfl⟩ := hall
    have HF : Hid (okBB xs ys = true) := Lib.hid (by simp [okBB, ox, oy, LX.out, LY.out])
    have px : pv xs = ext xs := by simp [pv, ox]
    have py : pv ys = ext ys := by simp [pv, oy]
    rw [ox, oy]
    rw [px] at R2 ⊢; rw [py]
    clear ox oy px py
    go_wp2_with (refine wpList_store_row rfl 62 _ _ rfl w2.heap.size (V (ext ys)).toArray rfl rfl 62 (V zeros).toArray (Arr.new w2 (V zeros) _ rfl) (size_V (ext_len _)) (by simp [V_len, ext_len, zeros]) (one_V _) ?_)
    generalize hw3 : (w2.alloc (.cells #[.int .i64 0, .int .i64 0, .int .i64 0, .int .i64 0, .int .i64 0, .int .i64 0, .int .i64 0, .int .i64 0, .int .i64 0, .int .i64 0, .int .i64 0, .int .i64 0, .int .i64 0, .int .i64 0, .int .i64 0, .int .i64 0, .int .i64 0, .int .i64 0, .int .i64 0, .int .i64 0, .int .i64 0, .int .i64 0, .int .i64 0, .int .i64 0] 62)).setRow w2.heap.size (V (ext ys)).toArray = w3
    have S0 : Arr w3 w.heap.size (V zeros) 62 := by rw [← hw3]; exact (R0.out.alloc _).rowOther (by omega)
    have S1 : Arr w3 (w.heap.size + 1) (V zeros) 62 := by rw [← hw3]; exact (R1.out.alloc _).rowOther (by omega)
    have S2 : Arr w3 w1.heap.size (V (ext xs)) 62 := by rw [← hw3]; exact (R2.out.alloc _).rowOther (by omega)
    have S3 : Arr w3 w2.heap.size (V (ext ys)) 62 := by rw [← hw3]; exact (Arr.new w2 (V zeros) _ rfl).row
    have B3 : Hid (Below w.heap.size w w3) := Lib.hid (by rw [← hw3]; exact below_setRow (B2.out.alloc B2.out.size _) (by omega) _)
    clear hw3 R0 R1 R2 B2
    clear HX HY LX LY
    refine wp_region_any (by kernel_rfl) ?_
    generalize hwd : ({ w3 with drawn := w3.drawn + 1 } : World) = wd
    replace S0 : Arr wd w.heap.size (V zeros) 62 := by rw [← hwd]; exact S0
    replace S1 : Arr wd (w.heap.size + 1) (V zeros) 62 := by rw [← hwd]; exact S1
    replace S2 : Arr wd w1.heap.size (V (ext xs)) 62 := by rw [← hwd]; exact S2
    replace S3 : Arr wd w2.heap.size (V (ext ys)) 62 := by rw [← hwd]; exact S3
    replace B3 : Hid (Below w.heap.size w wd) := Lib.hid (by rw [← hwd]; exact below_drew1 B3.out)
    clear hwd w3
    refine wpAny_ready (rs := [0, 1]) (by kernel_rfl) (by simp) (AllReady.cons rfl (fun K hK => ?_) (AllReady.cons rfl (fun K hK => ?_) AllReady.nil))
    · refine step_load_row rfl 62 (.tmp 7) rfl w1.heap.size rfl 62 (V (ext xs)).toArray (0, 0) _ S2 Try.underlying62 rfl (size_V (ext_len _)) ?_; refine hK _ _ ?_; clear hK K
      refine wpAny_ready (rs := [1, 2]) (by kernel_rfl) (by simp) (AllReady.cons rfl (fun K hK => ?_) (AllReady.cons rfl (fun K hK => ?_) AllReady.nil))
      · refine step_load_row rfl 62 (.tmp 9) rfl w2.heap.size rfl 62 (V (ext ys)).toArray (0, 0) _ S3 Try.underlying62 rfl (size_V (ext_len _)) ?_; refine hK _ _ ?_; clear hK K
        refine wpAny_ready (rs := [2]) (by kernel_rfl) (by simp) (AllReady.cons rfl (fun K hK => ?_) AllReady.nil)
        refine step_store_row rfl 62 (.tmp 4) (.tmp 36) rfl w.heap.size (V (ext xs)).toArray rfl rfl 62 (V zeros).toArray S0 (size_V (ext_len _)) (by simp [V_len, zeros, ext_len]) (one_V _) ?_; refine hK _ _ ?_; clear hK K
        refine wpAny_ready (rs := [3]) (by kernel_rfl) (by simp) (AllReady.cons rfl (fun K hK => ?_) AllReady.nil)
        refine step_store_row rfl 62 (.tmp 5) (.tmp 37) rfl (w.heap.size + 1) (V (ext ys)).toArray rfl rfl 62 (V zeros).toArray (S1.rowOther (by omega)) (size_V (ext_len _)) (by simp [V_len, zeros, ext_len]) (one_V _) ?_; refine hK _ _ ?_; clear hK K
        refine wpAny_ready (rs := [4]) (by kernel_rfl) (by simp) (AllReady.cons rfl (fun K hK => ?_) AllReady.nil)
        refine step_assign rfl _ rfl ?_; refine hK _ _ ?_; clear hK K
        refine wpAny_done (by kernel_rfl) ?_ _
        go_wp2
        exact bodyPost_ret (v := .tuple #[.agg (V (ext xs)).toArray, .agg (V (ext ys)).toArray, .bool true]) (results_cell2_tmp rfl _ _ w.heap.size (w.heap.size + 1) 62 (V (ext xs)).toArray (V (ext ys)).toArray (0, 0) _ _ rfl rfl rfl (S0.row.rowOther (by omega)) (S1.rowOther (by omega)).row Try.underlying62 rfl (size_V (ext_len _)) (size_V (ext_len _))) rfl (posts_yes HF.out (below_setRow (below_setRow B3.out (Nat.le_refl _) _) (by omega) _))
      · refine step_store_row rfl 62 (.tmp 4) (.tmp 36) rfl w.heap.size (V (ext xs)).toArray rfl rfl 62 (V zeros).toArray S0 (size_V (ext_len _)) (by simp [V_len, zeros, ext_len]) (one_V _) ?_; refine hK _ _ ?_; clear hK K
        refine wpAny_ready (rs := [1]) (by kernel_rfl) (by simp) (AllReady.cons rfl (fun K hK => ?_) AllReady.nil)
        refine step_load_row rfl 62 (.tmp 9) rfl w2.heap.size rfl 62 (V (ext ys)).toArray (0, 0) _ (S3.rowOther (by omega)) Try.underlying62 rfl (size_V (ext_len _)) ?_; refine hK _ _ ?_; clear hK K
        refine wpAny_ready (rs := [3]) (by kernel_rfl) (by simp) (AllReady.cons rfl (fun K hK => ?_) AllReady.nil)
        refine step_store_row rfl 62 (.tmp 5) (.tmp 37) rfl (w.heap.size + 1) (V (ext ys)).toArray rfl rfl 62 (V zeros).toArray (S1.rowOther (by omega)) (size_V (ext_len _)) (by simp [V_len, zeros, ext_len]) (one_V _) ?_; refine hK _ _ ?_; clear hK K
        refine wpAny_ready (rs := [4]) (by kernel_rfl) (by simp) (AllReady.cons rfl (fun K hK => ?_) AllReady.nil)
        refine step_assign rfl _ rfl ?_; refine hK _ _ ?_; clear hK K
        refine wpAny_done (by kernel_rfl) ?_ _
        go_wp2
        exact bodyPost_ret (v := .tuple #[.agg (V (ext xs)).toArray, .agg (V (ext ys)).toArray, .bool true]) (results_cell2_tmp rfl _ _ w.heap.size (w.heap.size + 1) 62 (V (ext xs)).toArray (V (ext ys)).toArray (0, 0) _ _ rfl rfl rfl (S0.row.rowOther (by omega)) (S1.rowOther (by omega)).row Try.underlying62 rfl (size_V (ext_len _)) (size_V (ext_len _))) rfl (posts_yes HF.out (below_setRow (below_setRow B3.out (Nat.le_refl _) _) (by omega) _))
    · refine step_load_row rfl 62 (.tmp 9) rfl w2.heap.size rfl 62 (V (ext ys)).toArray (0, 0) _ S3 Try.underlying62 rfl (size_V (ext_len _)) ?_; refine hK _ _ ?_; clear hK K
      refine wpAny_ready (rs := [0]) (by kernel_rfl) (by simp) (AllReady.cons rfl (fun K hK => ?_) AllReady.nil)
      refine step_load_row rfl 62 (.tmp 7) rfl w1.heap.size rfl 62 (V (ext xs)).toArray (0, 0) _ S2 Try.underlying62 rfl (size_V (ext_len _)) ?_; refine hK _ _ ?_; clear hK K
      refine wpAny_ready (rs := [2]) (by kernel_rfl) (by simp) (AllReady.cons rfl (fun K hK => ?_) AllReady.nil)
      refine step_store_row rfl 62 (.tmp 4) (.tmp 36) rfl w.heap.size (V (ext xs)).toArray rfl rfl 62 (V zeros).toArray S0 (size_V (ext_len _)) (by simp [V_len, zeros, ext_len]) (one_V _) ?_; refine hK _ _ ?_; clear hK K
      refine wpAny_ready (rs := [3]) (by kernel_rfl) (by simp) (AllReady.cons rfl (fun K hK => ?_) AllReady.nil)
      refine step_store_row rfl 62 (.tmp 5) (.tmp 37) rfl (w.heap.size + 1) (V (ext ys)).toArray rfl rfl 62 (V zeros).toArray (S1.rowOther (by omega)) (size_V (ext_len _)) (by simp [V_len, zeros, ext_len]) (one_V _) ?_; refine hK _ _ ?_; clear hK K
      refine wpAny_ready (rs := [4]) (by kernel_rfl) (by simp) (AllReady.cons rfl (fun K hK => ?_) AllReady.nil)
      refine step_assign rfl _ rfl ?_; refine hK _ _ ?_; clear hK K
      refine wpAny_done (by kernel_rfl) ?_ _
      go_wp2
      exact bodyPost_ret (v := .tuple #[.agg (V (ext xs)).toArray, .agg (V (ext ys)).toArray, .bool true]) (results_cell2_tmp rfl _ _ w.heap.size (w.heap.size + 1) 62 (V (ext xs)).toArray (V (ext ys)).toArray (0, 0) _ _ rfl rfl rfl (S0.row.rowOther (by omega)) (S1.rowOther (by omega)).row Try.underlying62 rfl (size_V (ext_len _)) (size_V (ext_len _))) rfl (posts_yes HF.out (below_setRow (below_setRow B3.out (Nat.le_refl _) _) (by omega) _))
  · by_cases ox : okB xs = true
    · by_cases oy : okB ys = true
      · have hne : n ≠ m := fun e => hall ⟨ox, oy, e⟩
        have HF : Hid (okBB xs ys = false) := Lib.hid (by simp [okBB, ox, oy, LX.out, LY.out, hne])
        have hb : ((n : Int) != (m : Int)) = true := by simp; omega
        rw [ox, oy]
        clear ox oy hall
        go_wp2_with (first | (refine wpList_store_row rfl 62 (.tmp 9) (.tmp 19) rfl w2.heap.size (V (pv ys)).toArray rfl rfl 62 (V zeros).toArray (Arr.new w2 (V zeros) _ rfl) (size_V (pv_len _)) (by simp [V_len, pv_len, zeros]) (one_V _) ?_; generalize hw3 : (w2.alloc (.cells #[.int .i64 0, .int .i64 0, .int .i64 0, .int .i64 0, .int .i64 0, .int .i64 0, .int .i64 0, .int .i64 0, .int .i64 0, .int .i64 0, .int .i64 0, .int .i64 0, .int .i64 0, .int .i64 0, .int .i64 0, .int .i64 0, .int .i64 0, .int .i64 0, .int .i64 0, .int .i64 0, .int .i64 0, .int .i64 0, .int .i64 0, .int .i64 0] 62)).setRow w2.heap.size (V (pv ys)).toArray = w3; have S0 : Hid (Arr w3 w.heap.size (V zeros) 62) := Lib.hid (by rw [← hw3]; exact (R0.out.alloc _).rowOther (by omega)); have S1 : Hid (Arr w3 (w.heap.size + 1) (V zeros) 62) := Lib.hid (by rw [← hw3]; exact (R1.out.alloc _).rowOther (by omega)); have B3 : Hid (Below w.heap.size w w3) := Lib.hid (by rw [← hw3]; exact below_setRow (B2.out.alloc B2.out.size _) (by omega) _); clear hw3 R0 R1 R2 B2) | (refine wpList_store_row rfl 62 (.tmp 4) (.tmp 34) rfl w.heap.size (V zeros).toArray rfl rfl 62 (V zeros).toArray S0.out (size_V zeros_len) rfl (one_V _) ?_) | (refine wpList_store_row rfl 62 (.tmp 5) (.tmp 35) rfl (w.heap.size + 1) (V zeros).toArray rfl rfl 62 (V zeros).toArray (S1.out.rowOther (by omega)) (size_V zeros_len) rfl (one_V _) ?_))
        exact bodyPost_ret (v := .tuple #[.agg (V zeros).toArray, .agg (V zeros).toArray, .bool false]) (results_cell2_tmp rfl _ _ w.heap.size (w.heap.size + 1) 62 (V zeros).toArray (V zeros).toArray (0, 0) _ _ rfl rfl rfl (S0.out.row.rowOther (by omega)) (S1.out.rowOther (by omega)).row Try.underlying62 rfl (size_V zeros_len) (size_V zeros_len)) rfl (posts_no HF.out (below_setRow (below_setRow B3.out (Nat.le_refl _) _) (by omega) _))
      · have oy' : okB ys = false := by simpa using oy
        have HF : Hid (okBB xs ys = false) := Lib.hid (by simp [okBB, oy'])
        rw [ox, oy']
        clear ox oy oy' hall
        go_wp2_with (first | (refine wpList_store_row rfl 62 (.tmp 9) (.tmp 19) rfl w2.heap.size (V (pv ys)).toArray rfl rfl 62 (V zeros).toArray (Arr.new w2 (V zeros) _ rfl) (size_V (pv_len _)) (by simp [V_len, pv_len, zeros]) (one_V _) ?_; generalize hw3 : (w2.alloc (.cells #[.int .i64 0, .int .i64 0, .int .i64 0, .int .i64 0, .int .i64 0, .int .i64 0, .int .i64 0, .int .i64 0, .int .i64 0, .int .i64 0, .int .i64 0, .int .i64 0, .int .i64 0, .int .i64 0, .int .i64 0, .int .i64 0, .int .i64 0, .int .i64 0, .int .i64 0, .int .i64 0, .int .i64 0, .int .i64 0, .int .i64 0, .int .i64 0] 62)).setRow w2.heap.size (V (pv ys)).toArray = w3; have S0 : Hid (Arr w3 w.heap.size (V zeros) 62) := Lib.hid (by rw [← hw3]; exact (R0.out.alloc _).rowOther (by omega)); have S1 : Hid (Arr w3 (w.heap.size + 1) (V zeros) 62) := Lib.hid (by rw [← hw3]; exact (R1.out.alloc _).rowOther (by omega)); have B3 : Hid (Below w.heap.size w w3) := Lib.hid (by rw [← hw3]; exact below_setRow (B2.out.alloc B2.out.size _) (by omega) _); clear hw3 R0 R1 R2 B2) | (refine wpList_store_row rfl 62 (.tmp 4) (.tmp 34) rfl w.heap.size (V zeros).toArray rfl rfl 62 (V zeros).toArray S0.out (size_V zeros_len) rfl (one_V _) ?_) | (refine wpList_store_row rfl 62 (.tmp 5) (.tmp 35) rfl (w.heap.size + 1) (V zeros).toArray rfl rfl 62 (V zeros).toArray (S1.out.rowOther (by omega)) (size_V zeros_len) rfl (one_V _) ?_))
        exact bodyPost_ret (v := .tuple #[.agg (V zeros).toArray, .agg (V zeros).toArray, .bool false]) (results_cell2_tmp rfl _ _ w.heap.size (w.heap.size + 1) 62 (V zeros).toArray (V zeros).toArray (0, 0) _ _ rfl rfl rfl (S0.out.row.rowOther (by omega)) (S1.out.rowOther (by omega)).row Try.underlying62 rfl (size_V zeros_len) (size_V zeros_len)) rfl (posts_no HF.out (below_setRow (below_setRow B3.out (Nat.le_refl _) _) (by omega) _))
    · have ox' : okB xs = false := by simpa using ox
      have HF : Hid (okBB xs ys = false) := Lib.hid (by simp [okBB, ox'])
      rw [ox']
      clear ox ox' hall
      generalize okB ys = q
      go_wp2_with (first | (refine wpList_store_row rfl 62 (.tmp 9) (.tmp 19) rfl w2.heap.size (V (pv ys)).toArray rfl rfl 62 (V zeros).toArray (Arr.new w2 (V zeros) _ rfl) (size_V (pv_len _)) (by simp [V_len, pv_len, zeros]) (one_V _) ?_; generalize hw3 : (w2.alloc (.cells #[.int .i64 0, .int .i64 0, .int .i64 0, .int .i64 0, .int .i64 0, .int .i64 0, .int .i64 0, .int .i64 0, .int .i64 0, .int .i64 0, .int .i64 0, .int .i64 0, .int .i64 0, .int .i64 0, .int .i64 0, .int .i64 0, .int .i64 0, .int .i64 0, .int .i64 0, .int .i64 0, .int .i64 0, .int .i64 0, .int .i64 0, .int .i64 0] 62)).setRow w2.heap.size (V (pv ys)).toArray = w3; have S0 : Hid (Arr w3 w.heap.size (V zeros) 62) := Lib.hid (by rw [← hw3]; exact (R0.out.alloc _).rowOther (by omega)); have S1 : Hid (Arr w3 (w.heap.size + 1) (V zeros) 62) := Lib.hid (by rw [← hw3]; exact (R1.out.alloc _).rowOther (by omega)); have B3 : Hid (Below w.heap.size w w3) := Lib.hid (by rw [← hw3]; exact below_setRow (B2.out.alloc B2.out.size _) (by omega) _); clear hw3 R0 R1 R2 B2) | (refine wpList_store_row rfl 62 (.tmp 4) (.tmp 34) rfl w.heap.size (V zeros).toArray rfl rfl 62 (V zeros).toArray S0.out (size_V zeros_len) rfl (one_V _) ?_) | (refine wpList_store_row rfl 62 (.tmp 5) (.tmp 35) rfl (w.heap.size + 1) (V zeros).toArray rfl rfl 62 (V zeros).toArray (S1.out.rowOther (by omega)) (size_V zeros_len) rfl (one_V _) ?_))
      exact bodyPost_ret (v := .tuple #[.agg (V zeros).toArray, .agg (V zeros).toArray, .bool false]) (results_cell2_tmp rfl _ _ w.heap.size (w.heap.size + 1) 62 (V zeros).toArray (V zeros).toArray (0, 0) _ _ rfl rfl rfl (S0.out.row.rowOther (by omega)) (S1.out.rowOther (by omega)).row Try.underlying62 rfl (size_V zeros_len) (size_V zeros_len)) rfl (posts_no HF.out (below_setRow (below_setRow B3.out (Nat.le_refl _) _) (by omega) _))
end Go.Proofs.Ytkkklpchkkdhfaa.permOf
