import Derived.Test.YtgcnemkhppkkcaaU04
import Derived.Test.YtgcnemkhppkkcaaU05
import Derived.RegionTactic
import Derived.BigRegion
namespace Go.Proofs.Ytgcnemkhppkkcaa.permOf
open Go.ChangeShapes Go.WideShapes Go.ChangeAt Go.RowKit
open mem ints arr pm permOk
set_option linter.unusedVariables false
set_option maxRecDepth 100000
def okBB (xs ys : List Int) : Bool := okB xs && okB ys && decide (xs.length = ys.length)
def PermsPost (xs ys : List Int) (w : World) (e : Ending) (w' : World) : Prop :=
  e = .returned (.tuple #[.agg (V (if okBB xs ys then ext xs else zeros)).toArray, .agg (V (if okBB xs ys then ext ys else zeros)).toArray, .bool (okBB xs ys)]) ∧ Below w.heap.size w w'
theorem posts_no {xs ys : List Int} {w w' : World} (h : okBB xs ys = false) (hb : Below w.heap.size w w') : PermsPost xs ys w (.returned (.tuple #[.agg (V zeros).toArray, .agg (V zeros).toArray, .bool false])) w' := by
  refine ⟨?_, hb⟩
  simp [h]
theorem posts_yes {xs ys : List Int} {w w' : World} (h : okBB xs ys = true) (hb : Below w.heap.size w w') : PermsPost xs ys w (.returned (.tuple #[.agg (V (ext xs)).toArray, .agg (V (ext ys)).toArray, .bool true])) w' := by
  refine ⟨?_, hb⟩
  simp [h]
theorem step_load_row {P : Program} {ops : Array Oper} {o : Oper} {a : Act} {w : World} {K : Act → World → Prop} {Q : Exit → Act → World → Prop} {E : Prop} (hgd : o.guard = none) (ty : TypeId) (x : Operand) (ho : o.op = .load ty x)
    (g : Nat) (hx : a.eval x = .pointer (some ⟨g, 0, none⟩)) (t : TypeId) (cs : Array Value) (fr : Nat × Nat) (d : TypeDesc) (hg : w.heap[g]? = some (.cells cs t fr))
    (hu : P.underlying ty = some d) (hd : (match d with | .struct _ | .array _ _ => true | _ => false) = true) (hi : (P.info? ty).map (·.size) = some cs.size)
    (h : K (a.put o.dst (.agg cs)) w) : if Region.wanted o (yielded ops a.tmps) = true then Oper.wp P o a w K Q else E := by
  have hw : Region.wanted o (yielded ops a.tmps) = true := by simp [Region.wanted, hgd]
  rw [if_pos hw]
  exact wp_load_row ty x ho g hx t cs fr d hg hu hd hi h
theorem step_store_row {P : Program} {ops : Array Oper} {o : Oper} {a : Act} {w : World} {K : Act → World → Prop} {Q : Exit → Act → World → Prop} {E : Prop} (hgd : o.guard = none) (ty : TypeId) (x y : Operand) (ho : o.op = .store ty x y)
    (g : Nat) (cells : Array Value) (hx : a.eval x = .pointer (some ⟨g, 0, none⟩)) (hy : a.eval y = .agg cells)
    (t : TypeId) (old : Array Value) (hg : w.heap[g]? = some (.cells old t (0, 0))) (hi : (P.info? ty).map (·.size) = some cells.size)
    (hold : old.size = cells.size) (h1 : cells.all (·.oneCell') = true)
    (h : K (a.put o.dst undef) (w.setRow g cells)) : if Region.wanted o (yielded ops a.tmps) = true then Oper.wp P o a w K Q else E := by
  have hw : Region.wanted o (yielded ops a.tmps) = true := by simp [Region.wanted, hgd]
  rw [if_pos hw]
  exact wp_store_row ty x y ho g cells hx hy t old hg hi hold h1 h
theorem step_assign {P : Program} {ops : Array Oper} {o : Oper} {a : Act} {w : World} {K : Act → World → Prop} {Q : Exit → Act → World → Prop} {E : Prop} (hgd : o.guard = none) (x : Operand) (ho : o.op = .assign x)
    (h : K (a.put o.dst (a.eval x)) w) : if Region.wanted o (yielded ops a.tmps) = true then Oper.wp P o a w K Q else E := by
  have hw : Region.wanted o (yielded ops a.tmps) = true := by simp [Region.wanted, hgd]
  rw [if_pos hw]
  unfold Oper.wp execOp
  simp only [ho, Sem.run_pure]
  exact h
theorem below_drew1 {B : Nat} {a w : World} (h : Below B a w) : Below B a { w with drawn := w.drawn + 1 } := ⟨h.os, h.tape, h.output, h.size, h.block⟩
set_option maxHeartbeats 2000000 in
theorem permsOf_any (A : Option Addr) (n c : Nat) (B : Option Addr) (m d : Nat) (xs ys : List Int) (h1 h2 : Nat) (w : World) (hx : Rd w h1 A n (V xs)) (hy : Rd w h2 B m (V ys)) (hn : n ≤ 1048576) (hm : m ≤ 1048576) (hh1 : h1 ≤ w.heap.size) (hh2 : h2 ≤ w.heap.size) :
    Calls sqp.prog 76 #[.slice A n c, .slice B m d] w (PermsPost xs ys w) := by
  have lx : xs.length = n := by simpa [V] using hx.1
  have ly : ys.length = m := by simpa [V] using hy.1
  have LX := Lib.hid lx; have LY := Lib.hid ly; clear lx ly
  have HX := Lib.hid hx; have HY := Lib.hid hy; clear hx hy
  have N0 := Lib.hid ((Arr.new w (V zeros) 60 rfl).alloc (.cells (V zeros).toArray 60))
  have N1 := Lib.hid (Arr.new (w.alloc (.cells (V zeros).toArray 60)) (V zeros) 60 (g := w.heap.size + 1) (by simp))
  have B0 := Lib.hid (((Below.refl w.heap.size w).alloc (Nat.le_refl _) (.cells (V zeros).toArray 60)).alloc (by simp) (.cells (V zeros).toArray 60))
  go_enter sqp.func76, sqp.ntmps76
  go_wp2_with fail
  refine (permOf_any A n c xs _ _ (HX.out.keep B0.out hh1) hn).mono ?_
  rintro e w1 ⟨rfl, b1⟩
  have hs1 : w.heap.size + 2 ≤ w1.heap.size := by have := b1.size; simpa using this
  have P0 := Lib.hid (N0.out.keep b1 (by simp; omega)); have P1 := Lib.hid (N1.out.keep b1 (by simp))
  have B1 := Lib.hid (B0.out.trans (b1.mono B0.out.size))
  clear b1 N0 N1 B0
  have Q1 := Lib.hid ((Arr.new w1 (V zeros) 60 rfl).row (cs' := V (pv xs)))
  go_wp2_with (refine wpList_store_row rfl 60 _ _ rfl w1.heap.size (V (pv xs)).toArray rfl rfl 60 (V zeros).toArray (Arr.new w1 (V zeros) _ rfl) (size_V (pv_len _)) (by simp [V_len, pv_len, zeros]) (one_V _) ?_)
  refine (permOf_any B m d ys _ _ (HY.out.keep (below_setRow (B1.out.alloc B1.out.size _) (by omega) _) hh2) hm).mono ?_
  rintro e w2 ⟨rfl, b2⟩
  have hs2 : w1.heap.size + 1 ≤ w2.heap.size := by have := b2.size; simpa using this
  have R0 := Lib.hid (((P0.out.alloc _).rowOther (by omega)).keep b2 (by simp; omega))
  have R1 := Lib.hid (((P1.out.alloc _).rowOther (by omega)).keep b2 (by simp; omega))
  have R2 := Lib.hid ((Arr.new w1 (V zeros) _ rfl).row.keep b2 (by simp))
  have B2 := Lib.hid ((below_setRow (B1.out.alloc B1.out.size _) (by omega) _).trans (b2.mono (by simp; omega)))
  clear b2 P0 P1 Q1 B1
  by_cases hall : okB xs = true ∧ okB ys = true ∧ n = m
  · obtain ⟨ox, oy, rfl⟩ := hall
    have HF : Hid (okBB xs ys = true) := Lib.hid (by simp [okBB, ox, oy, LX.out, LY.out])
    have px : pv xs = ext xs := by simp [pv, ox]
    have py : pv ys = ext ys := by simp [pv, oy]
    rw [ox, oy]
    rw [px] at R2 ⊢; rw [py]
    clear ox oy px py
    go_wp2_with (refine wpList_store_row rfl 60 _ _ rfl w2.heap.size (V (ext ys)).toArray rfl rfl 60 (V zeros).toArray (Arr.new w2 (V zeros) _ rfl) (size_V (ext_len _)) (by simp [V_len, ext_len, zeros]) (one_V _) ?_)
    generalize hw3 : (w2.alloc (.cells #[.int .i64 0, .int .i64 0, .int .i64 0, .int .i64 0, .int .i64 0, .int .i64 0, .int .i64 0, .int .i64 0, .int .i64 0, .int .i64 0, .int .i64 0, .int .i64 0, .int .i64 0, .int .i64 0, .int .i64 0, .int .i64 0, .int .i64 0, .int .i64 0, .int .i64 0, .int .i64 0, .int .i64 0, .int .i64 0, .int .i64 0, .int .i64 0] 60)).setRow w2.heap.size (V (ext ys)).toArray = w3
    have S0 : Arr w3 w.heap.size (V zeros) 60 := by rw [← hw3]; exact (R0.out.alloc _).rowOther (by omega)
    have S1 : Arr w3 (w.heap.size + 1) (V zeros) 60 := by rw [← hw3]; exact (R1.out.alloc _).rowOther (by omega)
    have S2 : Arr w3 w1.heap.size (V (ext xs)) 60 := by rw [← hw3]; exact (R2.out.alloc _).rowOther (by omega)
    have S3 : Arr w3 w2.heap.size (V (ext ys)) 60 := by rw [← hw3]; exact (Arr.new w2 (V zeros) _ rfl).row
    have B3 : Hid (Below w.heap.size w w3) := Lib.hid (by rw [← hw3]; exact below_setRow (B2.out.alloc B2.out.size _) (by omega) _)
    clear hw3 R0 R1 R2 B2
    clear HX HY LX LY
    refine wp_region_any (by kernel_rfl) ?_
    generalize hwd : ({ w3 with drawn := w3.drawn + 1 } : World) = wd
    replace S0 : Arr wd w.heap.size (V zeros) 60 := by rw [← hwd]; exact S0
    replace S1 : Arr wd (w.heap.size + 1) (V zeros) 60 := by rw [← hwd]; exact S1
    replace S2 : Arr wd w1.heap.size (V (ext xs)) 60 := by rw [← hwd]; exact S2
    replace S3 : Arr wd w2.heap.size (V (ext ys)) 60 := by rw [← hwd]; exact S3
    replace B3 : Hid (Below w.heap.size w wd) := Lib.hid (by rw [← hwd]; exact below_drew1 B3.out)
    clear hwd w3
    refine wpAny_ready (rs := [0, 1]) (by kernel_rfl) (by simp) (AllReady.cons rfl (fun K hK => ?_) (AllReady.cons rfl (fun K hK => ?_) AllReady.nil))
    · refine step_load_row rfl 60 (.tmp 7) rfl w1.heap.size rfl 60 (V (ext xs)).toArray (0, 0) _ S2 sqp.underlying60 rfl (size_V (ext_len _)) ?_; refine hK _ _ ?_; clear hK K
      refine wpAny_ready (rs := [1, 2]) (by kernel_rfl) (by simp) (AllReady.cons rfl (fun K hK => ?_) (AllReady.cons rfl (fun K hK => ?_) AllReady.nil))
      · refine step_load_row rfl 60 (.tmp 9) rfl w2.heap.size rfl 60 (V (ext ys)).toArray (0, 0) _ S3 sqp.underlying60 rfl (size_V (ext_len _)) ?_; refine hK _ _ ?_; clear hK K
        refine wpAny_ready (rs := [2]) (by kernel_rfl) (by simp) (AllReady.cons rfl (fun K hK => ?_) AllReady.nil)
        refine step_store_row rfl 60 (.tmp 4) (.tmp 36) rfl w.heap.size (V (ext xs)).toArray rfl rfl 60 (V zeros).toArray S0 (size_V (ext_len _)) (by simp [V_len, zeros, ext_len]) (one_V _) ?_; refine hK _ _ ?_; clear hK K
        refine wpAny_ready (rs := [3]) (by kernel_rfl) (by simp) (AllReady.cons rfl (fun K hK => ?_) AllReady.nil)
        refine step_store_row rfl 60 (.tmp 5) (.tmp 37) rfl (w.heap.size + 1) (V (ext ys)).toArray rfl rfl 60 (V zeros).toArray (S1.rowOther (by omega)) (size_V (ext_len _)) (by simp [V_len, zeros, ext_len]) (one_V _) ?_; refine hK _ _ ?_; clear hK K
        refine wpAny_ready (rs := [4]) (by kernel_rfl) (by simp) (AllReady.cons rfl (fun K hK => ?_) AllReady.nil)
        refine step_assign rfl _ rfl ?_; refine hK _ _ ?_; clear hK K
        refine wpAny_done (by kernel_rfl) ?_ _
        go_wp2
        exact bodyPost_ret (v := .tuple #[.agg (V (ext xs)).toArray, .agg (V (ext ys)).toArray, .bool true]) (results_cell2_tmp rfl _ _ w.heap.size (w.heap.size + 1) 60 (V (ext xs)).toArray (V (ext ys)).toArray (0, 0) _ _ rfl rfl rfl (S0.row.rowOther (by omega)) (S1.rowOther (by omega)).row sqp.underlying60 rfl (size_V (ext_len _)) (size_V (ext_len _))) rfl (posts_yes HF.out (below_setRow (below_setRow B3.out (Nat.le_refl _) _) (by omega) _))
      · refine step_store_row rfl 60 (.tmp 4) (.tmp 36) rfl w.heap.size (V (ext xs)).toArray rfl rfl 60 (V zeros).toArray S0 (size_V (ext_len _)) (by simp [V_len, zeros, ext_len]) (one_V _) ?_; refine hK _ _ ?_; clear hK K
        refine wpAny_ready (rs := [1]) (by kernel_rfl) (by simp) (AllReady.cons rfl (fun K hK => ?_) AllReady.nil)
        refine step_load_row rfl 60 (.tmp 9) rfl w2.heap.size rfl 60 (V (ext ys)).toArray (0, 0) _ (S3.rowOther (by omega)) sqp.underlying60 rfl (size_V (ext_len _)) ?_; refine hK _ _ ?_; clear hK K
        refine wpAny_ready (rs := [3]) (by kernel_rfl) (by simp) (AllReady.cons rfl (fun K hK => ?_) AllReady.nil)
        refine step_store_row rfl 60 (.tmp 5) (.tmp 37) rfl (w.heap.size + 1) (V (ext ys)).toArray rfl rfl 60 (V zeros).toArray (S1.rowOther (by omega)) (size_V (ext_len _)) (by simp [V_len, zeros, ext_len]) (one_V _) ?_; refine hK _ _ ?_; clear hK K
        refine wpAny_ready (rs := [4]) (by kernel_rfl) (by simp) (AllReady.cons rfl (fun K hK => ?_) AllReady.nil)
        refine step_assign rfl _ rfl ?_; refine hK _ _ ?_; clear hK K
        refine wpAny_done (by kernel_rfl) ?_ _
        go_wp2
        exact bodyPost_ret (v := .tuple #[.agg (V (ext xs)).toArray, .agg (V (ext ys)).toArray, .bool true]) (results_cell2_tmp rfl _ _ w.heap.size (w.heap.size + 1) 60 (V (ext xs)).toArray (V (ext ys)).toArray (0, 0) _ _ rfl rfl rfl (S0.row.rowOther (by omega)) (S1.rowOther (by omega)).row sqp.underlying60 rfl (size_V (ext_len _)) (size_V (ext_len _))) rfl (posts_yes HF.out (below_setRow (below_setRow B3.out (Nat.le_refl _) _) (by omega) _))
    · refine step_load_row rfl 60 (.tmp 9) rfl w2.heap.size rfl 60 (V (ext ys)).toArray (0, 0) _ S3 sqp.underlying60 rfl (size_V (ext_len _)) ?_; refine hK _ _ ?_; clear hK K
      refine wpAny_ready (rs := [0]) (by kernel_rfl) (by simp) (AllReady.cons rfl (fun K hK => ?_) AllReady.nil)
      refine step_load_row rfl 60 (.tmp 7) rfl w1.heap.size rfl 60 (V (ext xs)).toArray (0, 0) _ S2 sqp.underlying60 rfl (size_V (ext_len _)) ?_; refine hK _ _ ?_; clear hK K
      refine wpAny_ready (rs := [2]) (by kernel_rfl) (by simp) (AllReady.cons rfl (fun K hK => ?_) AllReady.nil)
      refine step_store_row rfl 60 (.tmp 4) (.tmp 36) rfl w.heap.size (V (ext xs)).toArray rfl rfl 60 (V zeros).toArray S0 (size_V (ext_len _)) (by simp [V_len, zeros, ext_len]) (one_V _) ?_; refine hK _ _ ?_; clear hK K
      refine wpAny_ready (rs := [3]) (by kernel_rfl) (by simp) (AllReady.cons rfl (fun K hK => ?_) AllReady.nil)
      refine step_store_row rfl 60 (.tmp 5) (.tmp 37) rfl (w.heap.size + 1) (V (ext ys)).toArray rfl rfl 60 (V zeros).toArray (S1.rowOther (by omega)) (size_V (ext_len _)) (by simp [V_len, zeros, ext_len]) (one_V _) ?_; refine hK _ _ ?_; clear hK K
      refine wpAny_ready (rs := [4]) (by kernel_rfl) (by simp) (AllReady.cons rfl (fun K hK => ?_) AllReady.nil)
      refine step_assign rfl _ rfl ?_; refine hK _ _ ?_; clear hK K
      refine wpAny_done (by kernel_rfl) ?_ _
      go_wp2
      exact bodyPost_ret (v := .tuple #[.agg (V (ext xs)).toArray, .agg (V (ext ys)).toArray, .bool true]) (results_cell2_tmp rfl _ _ w.heap.size (w.heap.size + 1) 60 (V (ext xs)).toArray (V (ext ys)).toArray (0, 0) _ _ rfl rfl rfl (S0.row.rowOther (by omega)) (S1.rowOther (by omega)).row sqp.underlying60 rfl (size_V (ext_len _)) (size_V (ext_len _))) rfl (posts_yes HF.out (below_setRow (below_setRow B3.out (Nat.le_refl _) _) (by omega) _))
  · by_cases ox : okB xs = true
    · by_cases oy : okB ys = true
      · have hne : n ≠ m := fun e => hall ⟨ox, oy, e⟩
        have HF : Hid (okBB xs ys = false) := Lib.hid (by simp [okBB, ox, oy, LX.out, LY.out, hne])
        have hb : ((n : Int) != (m : Int)) = true := by simp; omega
        rw [ox, oy]
        clear ox oy hall
        go_wp2_with (first | (refine wpList_store_row rfl 60 (.tmp 9) (.tmp 19) rfl w2.heap.size (V (pv ys)).toArray rfl rfl 60 (V zeros).toArray (Arr.new w2 (V zeros) _ rfl) (size_V (pv_len _)) (by simp [V_len, pv_len, zeros]) (one_V _) ?_; generalize hw3 : (w2.alloc (.cells #[.int .i64 0, .int .i64 0, .int .i64 0, .int .i64 0, .int .i64 0, .int .i64 0, .int .i64 0, .int .i64 0, .int .i64 0, .int .i64 0, .int .i64 0, .int .i64 0, .int .i64 0, .int .i64 0, .int .i64 0, .int .i64 0, .int .i64 0, .int .i64 0, .int .i64 0, .int .i64 0, .int .i64 0, .int .i64 0, .int .i64 0, .int .i64 0] 60)).setRow w2.heap.size (V (pv ys)).toArray = w3; have S0 : Hid (Arr w3 w.heap.size (V zeros) 60) := Lib.hid (by rw [← hw3]; exact (R0.out.alloc _).rowOther (by omega)); have S1 : Hid (Arr w3 (w.heap.size + 1) (V zeros) 60) := Lib.hid (by rw [← hw3]; exact (R1.out.alloc _).rowOther (by omega)); have B3 : Hid (Below w.heap.size w w3) := Lib.hid (by rw [← hw3]; exact below_setRow (B2.out.alloc B2.out.size _) (by omega) _); clear hw3 R0 R1 R2 B2) | (refine wpList_store_row rfl 60 (.tmp 4) (.tmp 34) rfl w.heap.size (V zeros).toArray rfl rfl 60 (V zeros).toArray S0.out (size_V zeros_len) rfl (one_V _) ?_) | (refine wpList_store_row rfl 60 (.tmp 5) (.tmp 35) rfl (w.heap.size + 1) (V zeros).toArray rfl rfl 60 (V zeros).toArray (S1.out.rowOther (by omega)) (size_V zeros_len) rfl (one_V _) ?_))
        exact bodyPost_ret (v := .tuple #[.agg (V zeros).toArray, .agg (V zeros).toArray, .bool false]) (results_cell2_tmp rfl _ _ w.heap.size (w.heap.size + 1) 60 (V zeros).toArray (V zeros).toArray (0, 0) _ _ rfl rfl rfl (S0.out.row.rowOther (by omega)) (S1.out.rowOther (by omega)).row sqp.underlying60 rfl (size_V zeros_len) (size_V zeros_len)) rfl (posts_no HF.out (below_setRow (below_setRow B3.out (Nat.le_refl _) _) (by omega) _))
      · have oy' : okB ys = false := by simpa using oy
        have HF : Hid (okBB xs ys = false) := Lib.hid (by simp [okBB, oy'])
        rw [ox, oy']
        clear ox oy oy' hall
        go_wp2_with (first | (refine wpList_store_row rfl 60 (.tmp 9) (.tmp 19) rfl w2.heap.size (V (pv ys)).toArray rfl rfl 60 (V zeros).toArray (Arr.new w2 (V zeros) _ rfl) (size_V (pv_len _)) (by simp [V_len, pv_len, zeros]) (one_V _) ?_; generalize hw3 : (w2.alloc (.cells #[.int .i64 0, .int .i64 0, .int .i64 0, .int .i64 0, .int .i64 0, .int .i64 0, .int .i64 0, .int .i64 0, .int .i64 0, .int .i64 0, .int .i64 0, .int .i64 0, .int .i64 0, .int .i64 0, .int .i64 0, .int .i64 0, .int .i64 0, .int .i64 0, .int .i64 0, .int .i64 0, .int .i64 0, .int .i64 0, .int .i64 0, .int .i64 0] 60)).setRow w2.heap.size (V (pv ys)).toArray = w3; have S0 : Hid (Arr w3 w.heap.size (V zeros) 60) := Lib.hid (by rw [← hw3]; exact (R0.out.alloc _).rowOther (by omega)); have S1 : Hid (Arr w3 (w.heap.size + 1) (V zeros) 60) := Lib.hid (by rw [← hw3]; exact (R1.out.alloc _).rowOther (by omega)); have B3 : Hid (Below w.heap.size w w3) := Lib.hid (by rw [← hw3]; exact below_setRow (B2.out.alloc B2.out.size _) (by omega) _); clear hw3 R0 R1 R2 B2) | (refine wpList_store_row rfl 60 (.tmp 4) (.tmp 34) rfl w.heap.size (V zeros).toArray rfl rfl 60 (V zeros).toArray S0.out (size_V zeros_len) rfl (one_V _) ?_) | (refine wpList_store_row rfl 60 (.tmp 5) (.tmp 35) rfl (w.heap.size + 1) (V zeros).toArray rfl rfl 60 (V zeros).toArray (S1.out.rowOther (by omega)) (size_V zeros_len) rfl (one_V _) ?_))
        exact bodyPost_ret (v := .tuple #[.agg (V zeros).toArray, .agg (V zeros).toArray, .bool false]) (results_cell2_tmp rfl _ _ w.heap.size (w.heap.size + 1) 60 (V zeros).toArray (V zeros).toArray (0, 0) _ _ rfl rfl rfl (S0.out.row.rowOther (by omega)) (S1.out.rowOther (by omega)).row sqp.underlying60 rfl (size_V zeros_len) (size_V zeros_len)) rfl (posts_no HF.out (below_setRow (below_setRow B3.out (Nat.le_refl _) _) (by omega) _))
    · have ox' : okB xs = false := by simpa using ox
      have HF : Hid (okBB xs ys = false) := Lib.hid (by simp [okBB, ox'])
      rw [ox']
      clear ox ox' hall
      generalize okB ys = q
      go_wp2_with (first | (refine wpList_store_row rfl 60 (.tmp 9) (.tmp 19) rfl w2.heap.size (V (pv ys)).toArray rfl rfl 60 (V zeros).toArray (Arr.new w2 (V zeros) _ rfl) (size_V (pv_len _)) (by simp [V_len, pv_len, zeros]) (one_V _) ?_; generalize hw3 : (w2.alloc (.cells #[.int .i64 0, .int .i64 0, .int .i64 0, .int .i64 0, .int .i64 0, .int .i64 0, .int .i64 0, .int .i64 0, .int .i64 0, .int .i64 0, .int .i64 0, .int .i64 0, .int .i64 0, .int .i64 0, .int .i64 0, .int .i64 0, .int .i64 0, .int .i64 0, .int .i64 0, .int .i64 0, .int .i64 0, .int .i64 0, .int .i64 0, .int .i64 0] 60)).setRow w2.heap.size (V (pv ys)).toArray = w3; have S0 : Hid (Arr w3 w.heap.size (V zeros) 60) := Lib.hid (by rw [← hw3]; exact (R0.out.alloc _).rowOther (by omega)); have S1 : Hid (Arr w3 (w.heap.size + 1) (V zeros) 60) := Lib.hid (by rw [← hw3]; exact (R1.out.alloc _).rowOther (by omega)); have B3 : Hid (Below w.heap.size w w3) := Lib.hid (by rw [← hw3]; exact below_setRow (B2.out.alloc B2.out.size _) (by omega) _); clear hw3 R0 R1 R2 B2) | (refine wpList_store_row rfl 60 (.tmp 4) (.tmp 34) rfl w.heap.size (V zeros).toArray rfl rfl 60 (V zeros).toArray S0.out (size_V zeros_len) rfl (one_V _) ?_) | (refine wpList_store_row rfl 60 (.tmp 5) (.tmp 35) rfl (w.heap.size + 1) (V zeros).toArray rfl rfl 60 (V zeros).toArray (S1.out.rowOther (by omega)) (size_V zeros_len) rfl (one_V _) ?_))
      exact bodyPost_ret (v := .tuple #[.agg (V zeros).toArray, .agg (V zeros).toArray, .bool false]) (results_cell2_tmp rfl _ _ w.heap.size (w.heap.size + 1) 60 (V zeros).toArray (V zeros).toArray (0, 0) _ _ rfl rfl rfl (S0.out.row.rowOther (by omega)) (S1.out.rowOther (by omega)).row sqp.underlying60 rfl (size_V zeros_len) (size_V zeros_len)) rfl (posts_no HF.out (below_setRow (below_setRow B3.out (Nat.le_refl _) _) (by omega) _))
end Go.Proofs.Ytgcnemkhppkkcaa.permOf

namespace Go.Proofs.Ytgcnemkhppkkcaa.pm
open arr inv permOf
set_option linter.unusedVariables false
set_option maxRecDepth 100000
theorem Ok.sq {xs : List Int} (h : Ok xs) : Sq (ext xs) := by
  refine ⟨ext_len xs, fun i hi => ?_, fun i hi => ?_⟩
  · rw [ext_at hi]; split
    · exact h.lo i (by assumption)
    · omega
  · rw [ext_at hi]; split
    · have := h.hi i (by assumption); have := h.len; omega
    · omega
theorem getD_set {l : List Int} {i k : Nat} {z : Int} : (l.set k z).getD i 0 = if k = i ∧ i < l.length then z else l.getD i 0 := by
  simp only [List.getD, List.getElem?_set]
  by_cases e : k = i
  · subst e
    by_cases h : k < l.length
    · simp [h]
    · simp [h]
  · simp [e]
theorem invTo_range (n : Nat) (qs : List Int) (k : Nat) (hk : k ≤ 24) (i : Nat) : 0 ≤ (invTo n qs k).getD i 0 ∧ (invTo n qs k).getD i 0 < 24 := by
  induction k with
  | zero =>
    simp only [invTo, List.getD, List.getElem?_replicate]
    split <;> simp
  | succ k ih =>
    have := ih (by omega)
    rw [invTo, getD_set]
    split
    · omega
    · exact this
theorem inv_sq (qs : List Int) : Sq (invTo 24 qs 24) :=
  ⟨invTo_len _ _ _, fun i _ => (invTo_range 24 qs 24 (Nat.le_refl _) i).1, fun i _ => (invTo_range 24 qs 24 (Nat.le_refl _) i).2⟩
theorem then_sq {ps qs : List Int} (hp : Sq ps) (hq : Sq qs) : Sq (thenL ps qs) := by
  refine ⟨tab_len _, fun i hi => ?_, fun i hi => ?_⟩
  · unfold thenL; rw [tab_get _ hi]
    exact hq.lo _ (by have := hp.lo i hi; have := hp.hi i hi; omega)
  · unfold thenL; rw [tab_get _ hi]
    exact hq.hi _ (by have := hp.lo i hi; have := hp.hi i hi; omega)
theorem list_eq {l m : List Int} (n : Nat) (h1 : l.length = n) (h2 : m.length = n) (h : ∀ i, i < n → l.getD i 0 = m.getD i 0) : l = m := by
  refine List.ext_getElem? fun i => ?_
  by_cases hi : i < n
  · have := h i hi
    rw [List.getD, List.getD, List.getElem?_eq_getElem (by omega), List.getElem?_eq_getElem (by omega)] at this
    rw [List.getElem?_eq_getElem (by omega), List.getElem?_eq_getElem (by omega)]
    simpa using this
  · rw [List.getElem?_eq_none (by omega), List.getElem?_eq_none (by omega)]
theorem getD_take {l : List Int} {n i : Nat} (h : i < n) : (l.take n).getD i 0 = l.getD i 0 := by
  simp [List.getD, h]
def invF (xs : List Int) : List Int := if okB xs then invTo xs.length xs xs.length else []
theorem take_inv {xs : List Int} (h : Ok xs) : (invTo 24 (ext xs) 24).take xs.length = invTo xs.length xs xs.length := by
  have hl := h.len
  have A : ∀ k, k ≤ xs.length → (invTo 24 (ext xs) k).take xs.length = invTo xs.length xs k := by
    intro k
    induction k with
    | zero => intro _; rw [invTo, invTo, List.take_replicate, Nat.min_eq_left hl]
    | succ k ih =>
      intro hk
      have e : (ext xs).getD k 0 = xs.getD k 0 := by rw [ext_at (by omega), if_pos (by omega)]
      rw [invTo, invTo, e, List.take_set, ih (by omega)]
  have B : ∀ k, xs.length ≤ k → k ≤ 24 → (invTo 24 (ext xs) k).take xs.length = invTo xs.length xs xs.length := by
    intro k hk
    induction k with
    | zero =>
      intro _
      have e : xs.length = 0 := by omega
      rw [A 0 (Nat.zero_le _), e]
    | succ k ih =>
      intro h24
      by_cases e : xs.length = k + 1
      · rw [← e]; exact A _ (Nat.le_refl _)
      · have hk' : xs.length ≤ k := by omega
        have ee : (ext xs).getD k 0 = (k : Int) := by rw [ext_at (by omega), if_neg (by omega)]
        rw [invTo, ee, Int.toNat_natCast, List.take_set_of_le hk', ih hk' (by omega)]
  exact B 24 hl (Nat.le_refl _)
def thn (xs ys : List Int) : List Int := xs.map fun x => ys.getD x.toNat 0
def thenF (xs ys : List Int) : List Int := if okBB xs ys then thn xs ys else []
theorem okBB_iff {xs ys : List Int} : okBB xs ys = true ↔ okB xs = true ∧ okB ys = true ∧ xs.length = ys.length := by
  simp [okBB, and_assoc]
def idF (a : Int) : List Int := if 0 ≤ a ∧ a ≤ 24 then (List.range a.toNat).map (fun (i : Nat) => (i : Int)) else []
end Go.Proofs.Ytgcnemkhppkkcaa.pm

namespace Go.Proofs.Ytgcnemkhppkkcaa.pm
open arr inv permOf
set_option linter.unusedVariables false
set_option maxRecDepth 100000
theorem nodup_le : ∀ (n : Nat) (l : List Nat), l.Nodup → (∀ x ∈ l, x < n) → l.length ≤ n := by
  intro n
  induction n with
  | zero =>
    intro l _ h
    cases l with
    | nil => simp
    | cons a t => have := h a (by simp); omega
  | succ n ih =>
    intro l hd h
    by_cases hm : n ∈ l
    · have h1 := ih (l.erase n) (hd.erase n) (fun x hx => by
        have h2 := (List.Nodup.mem_erase_iff hd).1 hx
        have := h x h2.2
        have := h2.1
        omega)
      rw [List.length_erase_of_mem hm] at h1
      omega
    · have h1 := ih l hd (fun x hx => by
        have := h x hx
        have : x ≠ n := fun e => hm (e ▸ hx)
        omega)
      omega
theorem onto_of_inj (n : Nat) (f : Nat → Nat) (h1 : ∀ i, i < n → f i < n) (h2 : ∀ i j, i < n → j < n → f i = f j → i = j) (y : Nat) (hy : y < n) : ∃ k, k < n ∧ f k = y := by
  by_cases h : ∃ k, k < n ∧ f k = y
  · exact h
  · exfalso
    have hn : ((List.range n).map f).Nodup := by
      unfold List.Nodup
      rw [List.pairwise_map]
      refine List.Pairwise.imp_of_mem ?_ (List.pairwise_lt_range (n := n))
      intro a b ha hb hab e
      simp at ha hb
      have := h2 a b ha hb e
      omega
    have hy' : ¬ y ∈ (List.range n).map f := by
      intro hm
      obtain ⟨k, hk, e⟩ := List.mem_map.1 hm
      simp at hk
      exact h ⟨k, hk, e⟩
    have := nodup_le n (y :: (List.range n).map f) (List.nodup_cons.2 ⟨hy', hn⟩) (by
      intro x hx
      rcases List.mem_cons.1 hx with rfl | hx
      · exact hy
      · obtain ⟨k, hk, rfl⟩ := List.mem_map.1 hx
        simp at hk
        exact h1 k hk)
    simp at this
    omega
theorem Ok.onto {ys : List Int} (h : Ok ys) {y : Nat} (hy : y < ys.length) : ∃ k, k < ys.length ∧ ys.getD k 0 = (y : Int) := by
  obtain ⟨k, hk, e⟩ := onto_of_inj ys.length (fun i => (ys.getD i 0).toNat) (fun i hi => by have := h.lo i hi; have := h.hi i hi; omega) (fun i j hi hj e => h.inj i j hi hj (by have := h.lo i hi; have := h.lo j hj; omega)) y hy
  exact ⟨k, hk, by have := h.lo k hk; omega⟩
def setTo (n : Nat) (f : Nat → Nat) (g : Nat → Int) : Nat → List Int
  | 0 => List.replicate n 0
  | k + 1 => (setTo n f g k).set (f k) (g k)
theorem setTo_len (n : Nat) (f : Nat → Nat) (g : Nat → Int) (k : Nat) : (setTo n f g k).length = n := by
  induction k with
  | zero => simp [setTo]
  | succ k ih => simp [setTo, ih]
theorem setTo_at (n : Nat) (f : Nat → Nat) (g : Nat → Int) (k : Nat) (hf : ∀ i j, i < k → j < k → f i = f j → i = j) (hl : ∀ i, i < k → f i < n) {j : Nat} (hj : j < k) : (setTo n f g k).getD (f j) 0 = g j := by
  induction k with
  | zero => omega
  | succ k ih =>
    rw [setTo, getD_set]
    by_cases e : j = k
    · subst e; rw [if_pos ⟨rfl, by rw [setTo_len]; exact hl j (by omega)⟩]
    · rw [if_neg (fun h => e (hf j k (by omega) (by omega) h.1.symm)), ih (fun i j hi hj => hf i j (by omega) (by omega)) (fun i hi => hl i (by omega)) (by omega)]
theorem invTo_eq (n : Nat) (qs : List Int) (k : Nat) : invTo n qs k = setTo n (fun j => (qs.getD j 0).toNat) (fun j => (j : Int)) k := by
  induction k with
  | zero => rfl
  | succ k ih => rw [invTo, setTo, ih]
theorem Ok.injN {ys : List Int} (h : Ok ys) : ∀ i j, i < ys.length → j < ys.length → (ys.getD i 0).toNat = (ys.getD j 0).toNat → i = j :=
  fun i j hi hj e => h.inj i j hi hj (by have := h.lo i hi; have := h.lo j hj; omega)
theorem Ok.ltN {ys : List Int} (h : Ok ys) : ∀ i, i < ys.length → (ys.getD i 0).toNat < ys.length :=
  fun i hi => by have := h.lo i hi; have := h.hi i hi; omega
theorem inv_at {ys : List Int} (h : Ok ys) {k : Nat} (hk : k < ys.length) : (invTo ys.length ys ys.length).getD (ys.getD k 0).toNat 0 = (k : Int) := by
  rw [invTo_eq, setTo_at _ _ _ _ h.injN h.ltN hk]
def renTo (n : Nat) (xs ys : List Int) (k : Nat) : List Int := setTo n (fun j => (ys.getD j 0).toNat) (fun j => ys.getD (xs.getD j 0).toNat 0) k
theorem renTo_len (n : Nat) (xs ys : List Int) (k : Nat) : (renTo n xs ys k).length = n := setTo_len _ _ _ _
def renF (xs ys : List Int) : List Int := if okBB xs ys then renTo xs.length xs ys xs.length else []
theorem ren_at {xs ys : List Int} (h' : Ok ys) (e : xs.length = ys.length) {k : Nat} (hk : k < xs.length) : (renTo xs.length xs ys xs.length).getD (ys.getD k 0).toNat 0 = ys.getD (xs.getD k 0).toNat 0 := by
  unfold renTo
  rw [e]
  exact setTo_at _ _ _ _ h'.injN h'.ltN (by omega)
theorem thenL_at (ps qs : List Int) {i : Nat} (h : i < 24) : (thenL ps qs).getD i 0 = qs.getD (ps.getD i 0).toNat 0 := by
  unfold thenL; rw [tab_get _ h]
theorem take_ren {xs ys : List Int} (h : Ok xs) (h' : Ok ys) (e : xs.length = ys.length) : (thenL (thenL (invTo 24 (ext ys) 24) (ext xs)) (ext ys)).take xs.length = renTo xs.length xs ys xs.length := by
  have hl := h.len
  refine list_eq xs.length (by simp [thenL, tab_len]; omega) (renTo_len _ _ _ _) fun i hi => ?_
  obtain ⟨k, hk, ek⟩ := h'.onto (y := i) (by omega)
  have e1 : (invTo 24 (ext ys) 24).getD i 0 = (k : Int) := by
    rw [← getD_take (n := ys.length) (by omega), take_inv h']
    have := inv_at h' hk
    rw [ek] at this
    simpa using this
  rw [getD_take hi, thenL_at _ _ (by omega), thenL_at _ _ (by omega), e1, Int.toNat_natCast]
  have h1 := h.lo k (by omega); have h2 := h.hi k (by omega)
  rw [ext_at (xs := xs) (i := k) (by omega), if_pos (by omega), ext_at (by omega), if_pos (by omega)]
  have := ren_at (xs := xs) h' e (k := k) (by omega)
  rw [ek] at this
  simpa using this.symm
end Go.Proofs.Ytgcnemkhppkkcaa.pm

namespace Go.Proofs.Ytgcnemkhppkkcaa.pm
open arr inv permOf
set_option linter.unusedVariables false
set_option maxRecDepth 100000
def add1 (l : List Int) (x : Int) : List Int := if x ∈ l then l else l ++ [x]
def rnd (ps qs l : List Int) (k : Nat) : List Int := if k < l.length then add1 (add1 l (ps.getD (l.getD k 0).toNat 0)) (qs.getD (l.getD k 0).toNat 0) else l
def rs (ps qs : List Int) (f : Int) : Nat → List Int
  | 0 => [f]
  | k + 1 => rnd ps qs (rs ps qs f k) k
structure In (n : Nat) (l : List Int) : Prop where
  nd : l.Nodup
  lo : ∀ x ∈ l, 0 ≤ x
  hi : ∀ x ∈ l, x < n
theorem In.len {n : Nat} {l : List Int} (h : In n l) : l.length ≤ n := by
  have := nodup_le n (l.map Int.toNat) (by
    unfold List.Nodup
    rw [List.pairwise_map]
    refine List.Pairwise.imp_of_mem ?_ h.nd
    intro a b ha hb hab e
    have := h.lo a ha; have := h.lo b hb
    exact hab (by omega)) (by
    intro x hx
    obtain ⟨y, hy, rfl⟩ := List.mem_map.1 hx
    have := h.lo y hy; have := h.hi y hy
    omega)
  simpa using this
theorem In.add {n : Nat} {l : List Int} (h : In n l) {x : Int} (h0 : 0 ≤ x) (h1 : x < n) : In n (add1 l x) := by
  unfold add1
  split
  · exact h
  · rename_i hx
    refine ⟨?_, fun y hy => ?_, fun y hy => ?_⟩
    · rw [List.nodup_append]
      exact ⟨h.nd, by simp, fun a ha b hb e => by simp at hb; subst hb; exact hx (e ▸ ha)⟩
    · rcases List.mem_append.1 hy with hy | hy
      · exact h.lo y hy
      · simp at hy; subst hy; exact h0
    · rcases List.mem_append.1 hy with hy | hy
      · exact h.hi y hy
      · simp at hy; subst hy; exact h1
theorem add1_le (l : List Int) (x : Int) : l.length ≤ (add1 l x).length := by unfold add1; split <;> simp
def Maps (n : Nat) (ps : List Int) : Prop := ∀ i, i < n → 0 ≤ ps.getD i 0 ∧ ps.getD i 0 < n
theorem Ok.maps {xs : List Int} (h : Ok xs) : Maps xs.length xs := fun i hi => ⟨h.lo i hi, h.hi i hi⟩
theorem Sq.maps {xs : List Int} (h : Sq xs) : Maps 24 xs := fun i hi => ⟨h.lo i hi, h.hi i hi⟩
theorem In.at_ {n : Nat} {l : List Int} (h : In n l) {k : Nat} (hk : k < l.length) : ∃ z : Nat, z < n ∧ l[k]? = some (z : Int) ∧ l.getD k 0 = (z : Int) := by
  have hm : l[k] ∈ l := List.getElem_mem hk
  have h1 := h.lo _ hm; have h2 := h.hi _ hm
  refine ⟨l[k].toNat, by omega, ?_, ?_⟩
  · rw [List.getElem?_eq_getElem hk]; congr 1; omega
  · simp [List.getD, List.getElem?_eq_getElem hk]; omega
theorem In.rnd {n : Nat} {l ps qs : List Int} (h : In n l) (hp : Maps n ps) (hq : Maps n qs) (k : Nat) : In n (rnd ps qs l k) := by
  unfold pm.rnd
  split
  · rename_i hk
    obtain ⟨z, hz, _, e⟩ := h.at_ hk
    rw [e, Int.toNat_natCast]
    exact (h.add (hp z hz).1 (hp z hz).2).add (hq z hz).1 (hq z hz).2
  · exact h
theorem rs_in {n : Nat} {ps qs : List Int} (hp : Maps n ps) (hq : Maps n qs) {f : Int} (h0 : 0 ≤ f) (h1 : f < n) (k : Nat) : In n (rs ps qs f k) := by
  induction k with
  | zero => exact ⟨by simp [rs], fun x hx => by simp [rs] at hx; omega, fun x hx => by simp [rs] at hx; omega⟩
  | succ k ih => exact ih.rnd hp hq k
theorem rs_stay (ps qs : List Int) (f : Int) {k : Nat} (h : (rs ps qs f k).length ≤ k) (j : Nat) : rs ps qs f (k + j) = rs ps qs f k := by
  induction j with
  | zero => rfl
  | succ j ih =>
    show pm.rnd ps qs (rs ps qs f (k + j)) (k + j) = _
    rw [ih]
    unfold pm.rnd
    rw [if_neg (by omega)]
theorem rs_stop (ps qs : List Int) (f : Int) {k m : Nat} (h : (rs ps qs f k).length ≤ k) (hm : k ≤ m) : rs ps qs f m = rs ps qs f k := by
  obtain ⟨j, rfl⟩ : ∃ j, m = k + j := ⟨m - k, by omega⟩
  exact rs_stay ps qs f h j
theorem rs_step (ps qs : List Int) (f : Int) {k z : Nat} (h : k < (rs ps qs f k).length) (hz : (rs ps qs f k).getD k 0 = (z : Int)) : rs ps qs f (k + 1) = add1 (add1 (rs ps qs f k) (ps.getD z 0)) (qs.getD z 0) := by
  show pm.rnd ps qs (rs ps qs f k) k = _
  unfold pm.rnd
  rw [if_pos h, hz, Int.toNat_natCast]
theorem rs_le (ps qs : List Int) (f : Int) {k : Nat} (h : k < (rs ps qs f k).length) : k + 1 ≤ (rs ps qs f (k + 1)).length := by
  show _ ≤ (pm.rnd ps qs (rs ps qs f k) k).length
  unfold pm.rnd
  rw [if_pos h]
  exact Nat.le_trans h (Nat.le_trans (add1_le _ _) (add1_le _ _))
theorem rs_congr {n : Nat} {ps qs ps' qs' : List Int} (hp : Maps n ps) (hq : Maps n qs) (h1 : ∀ i, i < n → ps'.getD i 0 = ps.getD i 0) (h2 : ∀ i, i < n → qs'.getD i 0 = qs.getD i 0) {f : Int} (hf0 : 0 ≤ f) (hf1 : f < n) (k : Nat) : rs ps' qs' f k = rs ps qs f k := by
  induction k with
  | zero => rfl
  | succ k ih =>
    show pm.rnd ps' qs' (rs ps' qs' f k) k = pm.rnd ps qs (rs ps qs f k) k
    rw [ih]
    unfold pm.rnd
    split
    · rename_i hk
      obtain ⟨z, hz, _, e⟩ := (rs_in hp hq hf0 hf1 k).at_ hk
      rw [e, Int.toNat_natCast, h1 z hz, h2 z hz]
    · rfl
def reach (ps qs : List Int) (f : Int) : List Int := rs ps qs f ps.length
theorem reach_of {ps qs : List Int} {n : Nat} (hn : ps.length = n) {f : Int} {k : Nat} (hk : k ≤ n) (h : (rs ps qs f k).length ≤ k) : rs ps qs f k = reach ps qs f := by
  unfold reach; rw [hn]; exact (rs_stop ps qs f h hk).symm
theorem reach_ext {xs ys : List Int} (h : Ok xs) (h' : Ok ys) (e : xs.length = ys.length) {f : Int} (hf0 : 0 ≤ f) (hf1 : f < xs.length) : reach (ext xs) (ext ys) f = reach xs ys f := by
  have hl := h.len
  have hy : Maps xs.length ys := by rw [e]; exact h'.maps
  unfold reach
  rw [ext_len, rs_congr (ps' := ext xs) (qs' := ext ys) h.maps hy (fun i hi => by rw [ext_at (by omega), if_pos hi]) (fun i hi => by rw [ext_at (by omega), if_pos (by omega)]) hf0 hf1]
  exact rs_stop _ _ _ ((rs_in h.maps hy hf0 hf1 _).len) hl
def transB (xs ys : List Int) : Bool := okBB xs ys && decide (0 < xs.length) && decide ((reach xs ys 0).length = xs.length)
def flagsOf (l : List Int) : List Bool := tabB fun j => decide ((j : Int) ∈ l)
theorem flagsOf_add {l : List Int} {z : Nat} (hz : ¬ (z : Int) ∈ l) : (flagsOf l).set z true = flagsOf (add1 l (z : Int)) := by
  refine tabB_set _ _ fun j hj => ?_
  unfold add1
  rw [if_neg hz]
  by_cases hjz : j = z
  · subst hjz; simp
  · have : ¬ ((j : Int) = (z : Int)) := by omega
    simp [hjz, this]
end Go.Proofs.Ytgcnemkhppkkcaa.pm

namespace Go.Proofs.Ytgcnemkhppkkcaa.pm
open arr inv permOf
set_option linter.unusedVariables false
set_option maxRecDepth 100000
def cy (ps : List Int) (f : Int) : Nat → Int → List Int → List Int
  | 0, _, acc => acc
  | m + 1, x, acc => if x = f then acc else cy ps f m (ps.getD x.toNat 0) (acc ++ [x])
structure Bij (n : Nat) (ps : List Int) : Prop where
  maps : Maps n ps
  inj : ∀ i j : Nat, i < n → j < n → ps.getD i 0 = ps.getD j 0 → i = j
theorem Ok.bij {xs : List Int} (h : Ok xs) : Bij xs.length xs := ⟨h.maps, h.inj⟩
theorem getD_mem {l : List Int} {i : Nat} (h : i < l.length) : l.getD i 0 ∈ l := by
  simp [List.getD, List.getElem?_eq_getElem h]
theorem mem_getD {l : List Int} {x : Int} (h : x ∈ l) : ∃ i, i < l.length ∧ l.getD i 0 = x := by
  obtain ⟨i, hi, e⟩ := List.getElem_of_mem h
  exact ⟨i, hi, by simp [List.getD, List.getElem?_eq_getElem hi, e]⟩
theorem nodup_getD {l : List Int} (h : l.Nodup) {i j : Nat} (hi : i < l.length) (hj : j < l.length) (e : l.getD i 0 = l.getD j 0) : i = j := by
  simp only [List.getD, List.getElem?_eq_getElem hi, List.getElem?_eq_getElem hj, Option.getD_some] at e
  have hp := List.pairwise_iff_getElem.1 h
  rcases Nat.lt_trichotomy i j with q | q | q
  · exact absurd e (hp i j hi hj q)
  · exact q
  · exact absurd e.symm (hp j i hj hi q)
structure Cs (n : Nat) (ps : List Int) (k : Nat) (out : List (List Int)) : Prop where
  inn : In n out.flatten
  back : ∀ y : Nat, y < n → ps.getD y 0 ∈ out.flatten → (y : Int) ∈ out.flatten
  all : ∀ i : Nat, i < k → (i : Int) ∈ out.flatten
  len : out.length ≤ k
end Go.Proofs.Ytgcnemkhppkkcaa.pm

namespace Go.Proofs.Ytgcnemkhppkkcaa.pm
set_option linter.unusedVariables false
set_option maxRecDepth 100000
end Go.Proofs.Ytgcnemkhppkkcaa.pm

namespace Go.Proofs.Ytgcnemkhppkkcaa.pm
open arr inv permOf
set_option linter.unusedVariables false
set_option maxRecDepth 100000
def it (ps : List Int) (f : Int) : Nat → Int
  | 0 => f
  | m + 1 => ps.getD (it ps f m).toNat 0
def rng (n : Nat) : List Int := (List.range n).map fun (i : Nat) => (i : Int)
theorem mem_rng {n : Nat} {x : Int} : x ∈ rng n ↔ 0 ≤ x ∧ x < n := by
  unfold rng
  rw [List.mem_map]
  constructor
  · rintro ⟨i, hi, rfl⟩; simp at hi; omega
  · intro h; exact ⟨x.toNat, by simp; omega, by omega⟩
theorem rng_nodup (n : Nat) : (rng n).Nodup := by
  unfold rng List.Nodup
  rw [List.pairwise_map]
  exact List.Pairwise.imp (fun h => by omega) (List.pairwise_lt_range (n := n))
structure Ren (n : Nat) (ps qs ns : List Int) : Prop where
  p : Bij n ps
  q : Bij n qs
  s : Bij n ns
  eq : ∀ i, i < n → qs.getD (ns.getD i 0).toNat 0 = ns.getD (ps.getD i 0).toNat 0
end Go.Proofs.Ytgcnemkhppkkcaa.pm

namespace Go.Proofs.Ytgcnemkhppkkcaa.pm
open arr inv permOf
set_option linter.unusedVariables false
set_option maxRecDepth 100000
def Inv (xs : List Int) : List Int := invTo xs.length xs xs.length
theorem Inv_len (xs : List Int) : (Inv xs).length = xs.length := invTo_len _ _ _
theorem Inv_at {xs : List Int} (h : Ok xs) {k : Nat} (hk : k < xs.length) : (Inv xs).getD (xs.getD k 0).toNat 0 = (k : Int) := inv_at h hk
theorem at_Inv {xs : List Int} (h : Ok xs) {i : Nat} (hi : i < xs.length) : ∃ k, k < xs.length ∧ (Inv xs).getD i 0 = (k : Int) ∧ xs.getD k 0 = (i : Int) := by
  obtain ⟨k, hk, e⟩ := h.onto hi
  refine ⟨k, hk, ?_, e⟩
  have := Inv_at h hk
  rw [e] at this
  simpa using this
theorem Inv_ok {xs : List Int} (h : Ok xs) : Ok (Inv xs) := by
  refine ⟨by rw [Inv_len]; exact h.len, fun i hi => ?_, fun i hi => ?_, fun i j hi hj e => ?_⟩
  · rw [Inv_len] at hi; obtain ⟨k, _, q, _⟩ := at_Inv h hi; omega
  · rw [Inv_len] at hi ⊢; obtain ⟨k, _, q, _⟩ := at_Inv h hi; omega
  · rw [Inv_len] at hi hj
    obtain ⟨k, _, q, r⟩ := at_Inv h hi
    obtain ⟨k', _, q', r'⟩ := at_Inv h hj
    have : k = k' := by omega
    subst this
    omega
theorem thn_len (xs ys : List Int) : (thn xs ys).length = xs.length := by simp [thn]
theorem thn_at {xs ys : List Int} {i : Nat} (hi : i < xs.length) : (thn xs ys).getD i 0 = ys.getD (xs.getD i 0).toNat 0 := by
  simp [thn, List.getD, List.getElem?_eq_getElem hi]
theorem thn_ok {xs ys : List Int} (h : Ok xs) (h' : Ok ys) (e : xs.length = ys.length) : Ok (thn xs ys) := by
  refine ⟨by rw [thn_len]; exact h.len, fun i hi => ?_, fun i hi => ?_, fun i j hi hj q => ?_⟩
  · rw [thn_len] at hi; rw [thn_at hi]; exact h'.lo _ (by have := h.ltN i hi; omega)
  · rw [thn_len] at hi ⊢; rw [thn_at hi, e]; exact h'.hi _ (by have := h.ltN i hi; omega)
  · rw [thn_len] at hi hj
    rw [thn_at hi, thn_at hj] at q
    have := h'.inj _ _ (by have := h.ltN i hi; omega) (by have := h.ltN j hj; omega) q
    exact h.injN i j hi hj this
theorem invF_of {xs : List Int} (h : Ok xs) : invF xs = Inv xs := by simp [invF, h.b, Inv]
theorem thenF_of {xs ys : List Int} (h : Ok xs) (h' : Ok ys) (e : xs.length = ys.length) : thenF xs ys = thn xs ys := by
  unfold thenF; rw [if_pos (okBB_iff.2 ⟨h.b, h'.b, e⟩)]
theorem renF_of {xs ys : List Int} (h : Ok xs) (h' : Ok ys) (e : xs.length = ys.length) : renF xs ys = renTo xs.length xs ys xs.length := by
  unfold renF; rw [if_pos (okBB_iff.2 ⟨h.b, h'.b, e⟩)]
theorem idF_of {n : Nat} (h : n ≤ 24) : idF (n : Int) = rng n := by
  unfold idF rng; rw [if_pos ⟨by omega, by omega⟩]; simp
theorem rng_len (n : Nat) : (rng n).length = n := by simp [rng]
theorem rng_at {n i : Nat} (h : i < n) : (rng n).getD i 0 = (i : Int) := by simp [rng, List.getD, h]
section
variable {p q s : List Int} {n : Nat} (hp : Ok p) (hq : Ok q) (hs : Ok s) (lp : p.length = n) (lq : q.length = n) (ls : s.length = n)
include hp hq lp lq
theorem back_eq : thenF (invF q) (invF p) = thn (Inv q) (Inv p) := by
  rw [invF_of hp, invF_of hq, thenF_of (Inv_ok hq) (Inv_ok hp) (by rw [Inv_len, Inv_len, lp, lq])]
theorem grp_id : thenF (thenF p q) (thenF (invF q) (invF p)) = idF (n : Int) := by
  have h24 := hp.len
  have okr := thn_ok hp hq (by omega)
  have okb := thn_ok (Inv_ok hq) (Inv_ok hp) (by rw [Inv_len, Inv_len, lp, lq])
  rw [back_eq hp hq lp lq, thenF_of hp hq (by omega), thenF_of okr okb (by rw [thn_len, thn_len, Inv_len, lp, lq]), idF_of (by omega)]
  refine list_eq n (by rw [thn_len, thn_len, lp]) (rng_len n) fun i hi => ?_
  have a1 := hp.ltN i (by omega)
  have a2 := hq.ltN _ (show (p.getD i 0).toNat < q.length by omega)
  have e1 : (thn p q).getD i 0 = q.getD (p.getD i 0).toNat 0 := thn_at (by omega)
  rw [thn_at (by rw [thn_len]; omega), e1, thn_at (by rw [Inv_len]; omega), Inv_at hq (by omega), Int.toNat_natCast, Inv_at hp (by omega), rng_at hi]
theorem grp_ren : renF p q = thenF (thenF (invF q) p) q := by
  have h24 := hp.len
  have ok1 := thn_ok (Inv_ok hq) hp (by rw [Inv_len]; omega)
  rw [invF_of hq, thenF_of (Inv_ok hq) hp (by rw [Inv_len]; omega), thenF_of ok1 hq (by rw [thn_len, Inv_len]), renF_of hp hq (by omega)]
  refine list_eq n (by rw [renTo_len, lp]) (by rw [thn_len, thn_len, Inv_len, lq]) fun j hj => ?_
  obtain ⟨k, hk, e1, e2⟩ := at_Inv hq (i := j) (by omega)
  rw [thn_at (by rw [thn_len, Inv_len]; omega), thn_at (by rw [Inv_len]; omega), e1, Int.toNat_natCast]
  have := ren_at (xs := p) hq (by omega) (k := k) (by omega)
  rw [e2, Int.toNat_natCast] at this
  exact this
theorem ren_ok : Ok (renF p q) ∧ (renF p q).length = n := by
  have ok1 := thn_ok (Inv_ok hq) hp (by rw [Inv_len]; omega)
  rw [grp_ren hp hq lp lq, invF_of hq, thenF_of (Inv_ok hq) hp (by rw [Inv_len]; omega), thenF_of ok1 hq (by rw [thn_len, Inv_len])]
  exact ⟨thn_ok ok1 hq (by rw [thn_len, Inv_len]), by rw [thn_len, thn_len, Inv_len, lq]⟩
theorem ren_ren : Ren n p (renF p q) q := by
  obtain ⟨h1, h2⟩ := ren_ok hp hq lp lq
  have b1 := hp.bij; have b2 := h1.bij; have b3 := hq.bij
  rw [lp] at b1; rw [h2] at b2; rw [lq] at b3
  refine ⟨b1, b2, b3, fun i hi => ?_⟩
  rw [renF_of hp hq (by omega)]
  exact ren_at hq (by omega) (by omega)
end
end Go.Proofs.Ytgcnemkhppkkcaa.pm

namespace Go.Proofs.Ytgcnemkhppkkcaa.pm
open arr inv permOf
set_option linter.unusedVariables false
set_option maxRecDepth 100000
theorem nodup_sub_len : ∀ (l m : List Int), l.Nodup → (∀ x ∈ l, x ∈ m) → l.length ≤ m.length := by
  intro l
  induction l with
  | nil => intros; simp
  | cons a t ih =>
    intro m hd hs
    have hd' := List.nodup_cons.1 hd
    have ha := hs a (by simp)
    have := ih (m.erase a) hd'.2 (fun x hx => (List.mem_erase_of_ne (fun (e : x = a) => hd'.1 (by rw [← e]; exact hx))).2 (hs x (by simp [hx])))
    rw [List.length_erase_of_mem ha] at this
    have : 0 < m.length := List.length_pos_of_mem ha
    simp
    omega
theorem nodup_sub_mem {l m : List Int} (hl : l.Nodup) (hs : ∀ x ∈ l, x ∈ m) (hlen : m.length ≤ l.length) {y : Int} (hy : y ∈ m) : y ∈ l := by
  by_cases h : y ∈ l
  · exact h
  · have := nodup_sub_len (y :: l) m (List.nodup_cons.2 ⟨h, hl⟩) (fun x hx => by
      rcases List.mem_cons.1 hx with rfl | hx
      · exact hy
      · exact hs x hx)
    simp at this
    omega
theorem add1_pre (l : List Int) (x : Int) : l <+: add1 l x := by
  unfold add1; split
  · exact List.prefix_refl _
  · exact List.prefix_append _ _
theorem add1_mem (l : List Int) (x : Int) : x ∈ add1 l x := by unfold add1; split <;> simp_all
theorem rnd_pre (ps qs l : List Int) (k : Nat) : l <+: rnd ps qs l k := by
  unfold rnd; split
  · exact (add1_pre _ _).trans (add1_pre _ _)
  · exact List.prefix_refl _
theorem rs_pre (ps qs : List Int) (f : Int) {k m : Nat} (h : k ≤ m) : rs ps qs f k <+: rs ps qs f m := by
  obtain ⟨j, rfl⟩ : ∃ j, m = k + j := ⟨m - k, by omega⟩
  induction j with
  | zero => exact List.prefix_refl _
  | succ j ih => exact (ih (by omega)).trans (rnd_pre _ _ _ _)
theorem pre_at {l m : List Int} (h : l <+: m) {k : Nat} (hk : k < l.length) : m.getD k 0 = l.getD k 0 := by
  obtain ⟨t, rfl⟩ := h
  simp only [List.getD]
  rw [List.getElem?_append_left hk]
theorem rs_early {ps qs : List Int} {f : Int} {k m : Nat} (hk : k < (rs ps qs f m).length) (hm : k ≤ m) : k < (rs ps qs f k).length := by
  rcases Nat.lt_or_ge k (rs ps qs f k).length with h | h
  · exact h
  · rw [rs_stop ps qs f h hm] at hk; omega
theorem reach_closed {n : Nat} {ps qs : List Int} (hn : ps.length = n) (hp : Maps n ps) (hq : Maps n qs) {f : Int} (f0 : 0 ≤ f) (f1 : f < n) {x : Int} (hx : x ∈ reach ps qs f) : ps.getD x.toNat 0 ∈ reach ps qs f ∧ qs.getD x.toNat 0 ∈ reach ps qs f := by
  unfold reach at hx ⊢
  rw [hn] at hx ⊢
  obtain ⟨k, hk, e⟩ := mem_getD hx
  have hl := (rs_in hp hq f0 f1 n).len
  have h1 := rs_early hk (by omega)
  rw [pre_at (rs_pre ps qs f (show k ≤ n by omega)) h1] at e
  obtain ⟨z, hz, _, ez⟩ := (rs_in hp hq f0 f1 k).at_ h1
  have st := rs_step ps qs f h1 ez
  have hpre := rs_pre ps qs f (show k + 1 ≤ n by omega)
  rw [ez] at e
  subst e
  rw [Int.toNat_natCast]
  have sub : ∀ y, y ∈ rs ps qs f (k + 1) → y ∈ rs ps qs f n := fun y hy => hpre.subset hy
  refine ⟨sub _ ?_, sub _ ?_⟩
  · rw [st]; exact (add1_pre _ _).subset (add1_mem _ _)
  · rw [st]; exact add1_mem _ _
theorem reach_start (ps qs : List Int) (f : Int) : f ∈ reach ps qs f := by
  have := rs_pre ps qs f (Nat.zero_le ps.length)
  exact this.subset (by simp [rs])
theorem reach_least {ps qs : List Int} {f : Int} (C : Int → Prop) (hf : C f) (hc : ∀ x, C x → C (ps.getD x.toNat 0) ∧ C (qs.getD x.toNat 0)) (k : Nat) : ∀ x ∈ rs ps qs f k, C x := by
  induction k with
  | zero => intro x hx; simp [rs] at hx; subst hx; exact hf
  | succ k ih =>
    intro x hx
    have hx' : x ∈ rnd ps qs (rs ps qs f k) k := hx
    unfold rnd at hx'
    split at hx'
    · rename_i hk
      have hy := hc _ (ih _ (getD_mem hk))
      unfold add1 at hx'
      split at hx' <;> split at hx' <;> (try simp at hx') <;> (first | exact ih x hx' | skip)
      all_goals
        rcases hx' with q | q
        · first
            | exact ih x q
            | (rcases q with q | q
               · exact ih x q
               · subst q; exact hy.1)
        · first
            | (subst q; exact hy.1)
            | (subst q; exact hy.2)
            | (rcases q with q | q
               · subst q; exact hy.1
               · subst q; exact hy.2)
    · exact ih x hx'
theorem closed_back {n : Nat} {ps l : List Int} (hb : Bij n ps) (hl : In n l) (hc : ∀ x ∈ l, ps.getD x.toNat 0 ∈ l) {y : Int} (y0 : 0 ≤ y) (y1 : y < n) (h : ps.getD y.toNat 0 ∈ l) : y ∈ l := by
  have hm : (l.map fun x => ps.getD x.toNat 0).Nodup := by
    unfold List.Nodup
    rw [List.pairwise_map]
    refine List.Pairwise.imp_of_mem ?_ hl.nd
    intro a b ha hb' hab e
    have a0 := hl.lo a ha; have a1 := hl.hi a ha; have b0 := hl.lo b hb'; have b1 := hl.hi b hb'
    have := hb.inj _ _ (by omega) (by omega) e
    omega
  have := nodup_sub_mem hm (fun x hx => by obtain ⟨z, hz, rfl⟩ := List.mem_map.1 hx; exact hc z hz) (by simp) h
  obtain ⟨z, hz, e⟩ := List.mem_map.1 this
  have z0 := hl.lo z hz; have z1 := hl.hi z hz
  have := hb.inj _ _ (by omega) (by omega) e
  have : z = y := by omega
  exact this ▸ hz
structure Sf (n : Nat) (R U : List Int) : Prop where
  r : Ok R
  u : Ok U
  lr : R.length = n
  lu : U.length = n
  pos : 0 < n
  all : (reach R U 0).length = n
theorem Sf.br {n : Nat} {R U : List Int} (h : Sf n R U) : Bij n R := by have := h.r.bij; rw [h.lr] at this; exact this
theorem Sf.bu {n : Nat} {R U : List Int} (h : Sf n R U) : Bij n U := by have := h.u.bij; rw [h.lu] at this; exact this
theorem transB_iff {R U : List Int} : transB R U = true ↔ Sf R.length R U := by
  unfold transB
  simp only [Bool.and_eq_true, decide_eq_true_eq, okBB_iff]
  constructor
  · rintro ⟨⟨⟨h1, h2, h3⟩, h4⟩, h5⟩
    exact ⟨Ok.of R h1, Ok.of U h2, rfl, h3.symm, h4, h5⟩
  · intro h
    exact ⟨⟨⟨h.r.b, h.u.b, h.lu.symm⟩, h.pos⟩, h.all⟩
theorem Sf.inn {n : Nat} {R U : List Int} (h : Sf n R U) {f : Int} (f0 : 0 ≤ f) (f1 : f < n) : In n (reach R U f) := rs_in h.br.maps h.bu.maps f0 f1 _
theorem Sf.full {n : Nat} {R U : List Int} (h : Sf n R U) {f : Int} (f0 : 0 ≤ f) (f1 : f < n) {y : Int} (y0 : 0 ≤ y) (y1 : y < n) : y ∈ reach R U f := by
  have hin := h.inn f0 f1
  have hcl : ∀ x ∈ reach R U f, R.getD x.toNat 0 ∈ reach R U f ∧ U.getD x.toNat 0 ∈ reach R U f := fun x hx => reach_closed h.lr h.br.maps h.bu.maps f0 f1 hx
  have h0 : ∀ z : Int, 0 ≤ z → z < n → z ∈ reach R U 0 := by
    intro z z0 z1
    have i0 := h.inn (f := 0) (by omega) (by have := h.pos; omega)
    exact nodup_sub_mem i0.nd (m := rng n) (fun x hx => mem_rng.2 ⟨i0.lo x hx, i0.hi x hx⟩) (by rw [h.all]; simp [rng]) (mem_rng.2 ⟨z0, z1⟩)
  by_cases hz : (0 : Int) ∈ reach R U f
  · have := reach_least (ps := R) (qs := U) (f := 0) (fun x => x ∈ reach R U f) hz hcl R.length y
    exact this (h0 y y0 y1)
  · exfalso
    have := reach_least (ps := R) (qs := U) (f := 0) (fun x => (0 ≤ x ∧ x < n) ∧ ¬ x ∈ reach R U f) ⟨⟨by omega, by have := h.pos; omega⟩, hz⟩ (by
      rintro x ⟨⟨x0, x1⟩, hx⟩
      have m1 := h.br.maps x.toNat (by omega); have m2 := h.bu.maps x.toNat (by omega)
      exact ⟨⟨m1, fun q => hx (closed_back h.br hin (fun x hx => (hcl x hx).1) x0 x1 q)⟩, ⟨m2, fun q => hx (closed_back h.bu hin (fun x hx => (hcl x hx).2) x0 x1 q)⟩⟩) R.length f (h0 f f0 f1)
    exact this.2 (reach_start R U f)
theorem Sf.flen {n : Nat} {R U : List Int} (h : Sf n R U) {f : Int} (f0 : 0 ≤ f) (f1 : f < n) : (reach R U f).length = n := by
  have h1 := (h.inn f0 f1).len
  have h2 := nodup_sub_len (rng n) (reach R U f) (rng_nodup n) (fun x hx => by rw [mem_rng] at hx; exact h.full f0 f1 hx.1 hx.2)
  rw [rng_len] at h2
  omega
theorem In.ok {n : Nat} {l : List Int} (h : In n l) (hl : l.length = n) (h24 : n ≤ 24) : Ok l := by
  refine ⟨by omega, fun i hi => h.lo _ (getD_mem hi), fun i hi => ?_, fun i j hi hj e => nodup_getD h.nd hi hj e⟩
  have := h.hi _ (getD_mem hi); omega
theorem Sf.rok {n : Nat} {R U : List Int} (h : Sf n R U) {f : Int} (f0 : 0 ≤ f) (f1 : f < n) : Ok (reach R U f) := (h.inn f0 f1).ok (h.flen f0 f1) (by have := h.r.len; have := h.lr; omega)
def nm (R U : List Int) (f : Int) : List Int := Inv (reach R U f)
theorem Sf.nok {n : Nat} {R U : List Int} (h : Sf n R U) {f : Int} (f0 : 0 ≤ f) (f1 : f < n) : Ok (nm R U f) ∧ (nm R U f).length = n := ⟨Inv_ok (h.rok f0 f1), by unfold nm; rw [Inv_len, h.flen f0 f1]⟩
structure Iso (n : Nat) (R U R' U' ns : List Int) : Prop where
  s : Sf n R U
  okn : Ok ns
  ln : ns.length = n
  r : Ren n R R' ns
  u : Ren n U U' ns
theorem add1_map {n : Nat} {ns l : List Int} (hb : Bij n ns) (hl : In n l) {x : Int} (x0 : 0 ≤ x) (x1 : x < n) : add1 (l.map fun y => ns.getD y.toNat 0) (ns.getD x.toNat 0) = (add1 l x).map fun y => ns.getD y.toNat 0 := by
  have e : ns.getD x.toNat 0 ∈ (l.map fun y => ns.getD y.toNat 0) ↔ x ∈ l := by
    rw [List.mem_map]
    constructor
    · rintro ⟨y, hy, q⟩
      have := hl.lo y hy; have := hl.hi y hy
      have := hb.inj _ _ (by omega) (by omega) q
      have : y = x := by omega
      exact this ▸ hy
    · intro h; exact ⟨x, h, rfl⟩
  unfold add1
  by_cases h : x ∈ l
  · rw [if_pos h, if_pos (e.2 h)]
  · rw [if_neg h, if_neg (fun q => h (e.1 q))]; simp
theorem Iso.rs_eq {n : Nat} {R U R' U' ns : List Int} (h : Iso n R U R' U' ns) {f : Int} (f0 : 0 ≤ f) (f1 : f < n) (k : Nat) : rs R' U' (ns.getD f.toNat 0) k = (rs R U f k).map fun y => ns.getD y.toNat 0 := by
  induction k with
  | zero => rfl
  | succ k ih =>
    have hin := rs_in h.s.br.maps h.s.bu.maps f0 f1 k
    show rnd R' U' _ k = (rnd R U _ k).map _
    rw [ih]
    unfold rnd
    rw [List.length_map]
    split
    · rename_i hk
      obtain ⟨z, hz, _, ez⟩ := hin.at_ hk
      have e1 : ((rs R U f k).map fun y => ns.getD y.toNat 0).getD k 0 = ns.getD z 0 := by
        simp only [List.getD, List.getElem?_map, List.getElem?_eq_getElem hk, Option.map_some, Option.getD_some]
        have : (rs R U f k)[k] = (z : Int) := by rw [← ez]; simp [List.getD, List.getElem?_eq_getElem hk]
        rw [this]; simp
      have m1 := h.s.br.maps z hz; have m2 := h.s.bu.maps z hz
      rw [e1, ez, Int.toNat_natCast, h.r.eq z hz, h.u.eq z hz, add1_map h.r.s hin m1.1 m1.2, add1_map h.r.s (hin.add m1.1 m1.2) m2.1 m2.2]
    · rfl
theorem Iso.reach_eq {n : Nat} {R U R' U' ns : List Int} (h : Iso n R U R' U' ns) (hl : R'.length = n) {f : Int} (f0 : 0 ≤ f) (f1 : f < n) : reach R' U' (ns.getD f.toNat 0) = (reach R U f).map fun y => ns.getD y.toNat 0 := by
  unfold reach; rw [hl, h.s.lr]; exact h.rs_eq f0 f1 n
theorem map_at {g : Int → Int} {l : List Int} {k : Nat} (hk : k < l.length) : (l.map g).getD k 0 = g (l.getD k 0) := by
  simp [List.getD, List.getElem?_eq_getElem hk]
theorem Iso.nm_eq {n : Nat} {R U R' U' ns : List Int} (h : Iso n R U R' U' ns) (hl : R'.length = n) {f : Int} (f0 : 0 ≤ f) (f1 : f < n) {i : Nat} (hi : i < n) : (nm R' U' (ns.getD f.toNat 0)).getD (ns.getD i 0).toNat 0 = (nm R U f).getD i 0 := by
  have fl := h.s.flen f0 f1
  have ok := h.s.rok f0 f1
  obtain ⟨k, hk, e⟩ := mem_getD (h.s.full f0 f1 (y := (i : Int)) (by omega) (by omega))
  have a := Inv_at ok hk
  rw [e, Int.toNat_natCast] at a
  unfold nm
  rw [a, h.reach_eq hl f0 f1]
  have hin : In n ((reach R U f).map fun y => ns.getD y.toNat 0) := by
    have hn := h.s.inn f0 f1
    refine ⟨?_, fun x hx => ?_, fun x hx => ?_⟩
    · unfold List.Nodup
      rw [List.pairwise_map]
      refine List.Pairwise.imp_of_mem ?_ hn.nd
      intro a b ha hb hab q
      have := hn.lo a ha; have := hn.hi a ha; have := hn.lo b hb; have := hn.hi b hb
      have := h.r.s.inj _ _ (by omega) (by omega) q
      omega
    · obtain ⟨y, hy, rfl⟩ := List.mem_map.1 hx
      exact (h.r.s.maps _ (by have := hn.lo y hy; have := hn.hi y hy; omega)).1
    · obtain ⟨y, hy, rfl⟩ := List.mem_map.1 hx
      exact (h.r.s.maps _ (by have := hn.lo y hy; have := hn.hi y hy; omega)).2
  have ok2 := hin.ok (by simp [fl]) (by have := h.s.r.len; have := h.s.lr; omega)
  have b := Inv_at ok2 (k := k) (by simpa using hk)
  rw [map_at hk, e, Int.toNat_natCast] at b
  exact b
end Go.Proofs.Ytgcnemkhppkkcaa.pm
