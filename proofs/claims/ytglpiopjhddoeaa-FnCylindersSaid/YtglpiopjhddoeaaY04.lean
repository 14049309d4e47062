import Derived.Test.YtglpiopjhddoeaaY03
import Derived.RegionTactic
import Derived.BigRegion
/-
  Contract of impl.permsOf.
-/
namespace Go.Proofs.Ytglpiopjhddoeaa.permOf
open Go.ChangeShapes Go.WideShapes Go.ChangeAt Go.RowKit
open Go.Proofs.Ytglpiopjhddoeaa.mem Go.Proofs.Ytglpiopjhddoeaa.ints Go.Proofs.Ytglpiopjhddoeaa.arr Go.Proofs.Ytglpiopjhddoeaa.pm Go.Proofs.Ytglpiopjhddoeaa.permOk
set_option linter.unusedVariables false
set_option maxRecDepth 100000

def okBB (xs ys : List Int) : Bool := okB xs && okB ys && decide (xs.length = ys.length)
def PermsPost (xs ys : List Int) (w : World) (e : Ending) (w' : World) : Prop :=
  e = .returned (.tuple #[.agg (V (if okBB xs ys then ext xs else zeros)).toArray, .agg (V (if okBB xs ys then ext ys else zeros)).toArray, .bool (okBB xs ys)]) ∧ Below w.heap.size w w'
theorem posts_no {xs ys : List Int} {w w' : World} (h : okBB xs ys = false) (hb : Below w.heap.size w w') : PermsPost xs ys w (.returned (.tuple #[.agg (V zeros).toArray, .agg (V zeros).toArray, .bool false])) w' := by
  refine ⟨?_, hb⟩
  simp [h]
theorem posts_yes {xs ys : List Int} {w w' : World} (h : okBB xs ys = true) (hb : Below w.heap.size w w') : PermsPost xs ys w (.returned (.tuple #[.agg (V (ext xs)).toArray, .agg (V (ext ys)).toArray, .bool true])) w' := by
  refine ⟨?_, hb⟩
  simp [h]

theorem step_load_row {P : Program} {ops : Array Oper} {o : Oper} {a : Act} {w : World} {K : Act → World → Prop} {Q : Exit → Act → World → Prop} {E : Prop} (hgd : o.guard = none) (ty : TypeId) (x : Operand) (ho : o.op = .load ty x)
    (g : Nat) (hx : a.eval x = .pointer (some ⟨g, 0, none⟩)) (t : TypeId) (cs : Array Value) (fr : Nat × Nat) (d : TypeDesc) (hg : w.heap[g]? = some (.cells cs t fr))
    (hu : P.underlying ty = some d) (hd : (match d with | .struct _ | .array _ _ => true | _ => false) = true) (hi : (P.info? ty).map (·.size) = some cs.size)
    (h : K (a.put o.dst (.agg cs)) w) : if Region.wanted o (yielded ops a.tmps) = true then Oper.wp P o a w K Q else E := by
  have hw : Region.wanted o (yielded ops a.tmps) = true := by simp [Region.wanted, hgd]
  rw [if_pos hw]
  exact wp_load_row ty x ho g hx t cs fr d hg hu hd hi h
theorem step_store_row {P : Program} {ops : Array Oper} {o : Oper} {a : Act} {w : World} {K : Act → World → Prop} {Q : Exit → Act → World → Prop} {E : Prop} (hgd : o.guard = none) (ty : TypeId) (x y : Operand) (ho : o.op = .store ty x y)
    (g : Nat) (cells : Array Value) (hx : a.eval x = .pointer (some ⟨g, 0, none⟩)) (hy : a.eval y = .agg cells)
    (t : TypeId) (old : Array Value) (hg : w.heap[g]? = some (.cells old t (0, 0))) (hi : (P.info? ty).map (·.size) = some cells.size)
    (hold : old.size = cells.size) (h1 : cells.all (·.oneCell') = true)
    (h : K (a.put o.dst undef) (w.setRow g cells)) : if Region.wanted o (yielded ops a.tmps) = true then Oper.wp P o a w K Q else E := by
  have hw : Region.wanted o (yielded ops a.tmps) = true := by simp [Region.wanted, hgd]
  rw [if_pos hw]
  exact wp_store_row ty x y ho g cells hx hy t old hg hi hold h1 h
theorem step_assign {P : Program} {ops : Array Oper} {o : Oper} {a : Act} {w : World} {K : Act → World → Prop} {Q : Exit → Act → World → Prop} {E : Prop} (hgd : o.guard = none) (x : Operand) (ho : o.op = .assign x)
    (h : K (a.put o.dst (a.eval x)) w) : if Region.wanted o (yielded ops a.tmps) = true then Oper.wp P o a w K Q else E := by
  have hw : Region.wanted o (yielded ops a.tmps) = true := by simp [Region.wanted, hgd]
  rw [if_pos hw]
  unfold Oper.wp execOp
  simp only [ho, Sem.run_pure]
  exact h
theorem below_drew1 {B : Nat} {a w : World} (h : Below B a w) : Below B a { w with drawn := w.drawn + 1 } := ⟨h.os, h.tape, h.output, h.size, h.block⟩
set_option maxHeartbeats 2000000 in
theorem permsOf_any (A : Option Addr) (n c : Nat) (B : Option Addr) (m d : Nat) (xs ys : List Int) (h1 h2 : Nat) (w : World) (hx : Rd w h1 A n (V xs)) (hy : Rd w h2 B m (V ys)) (hn : n ≤ 1048576) (hm : m ≤ 1048576) (hh1 : h1 ≤ w.heap.size) (hh2 : h2 ≤ w.heap.size) :
    Calls Try.prog 65 #[.slice A n c, .slice B m d] w (PermsPost xs ys w) := by
  have lx : xs.length = n := by simpa [V] using hx.1
  have ly : ys.length = m := by simpa [V] using hy.1
  have LX := Lib.hid lx; have LY := Lib.hid ly; clear lx ly
  have HX := Lib.hid hx; have HY := Lib.hid hy; clear hx hy
  have N0 := Lib.hid ((Arr.new w (V zeros) 61 rfl).alloc (.cells (V zeros).toArray 61))
  have N1 := Lib.hid (Arr.new (w.alloc (.cells (V zeros).toArray 61)) (V zeros) 61 (g := w.heap.size + 1) (by simp))
  have B0 := Lib.hid (((Below.refl w.heap.size w).alloc (Nat.le_refl _) (.cells (V zeros).toArray 61)).alloc (by simp) (.cells (V zeros).toArray 61))
  go_enter Try.func65, Try.ntmps65
  go_wp2_with fail
  refine (permOf_any A n c xs _ _ (HX.out.keep B0.out hh1) hn).mono ?_
  rintro e w1 ⟨rfl, b1⟩
  have hs1 : w.heap.size + 2 ≤ w1.heap.size := by have := b1.size; simpa using this
  have P0 := Lib.hid (N0.out.keep b1 (by simp; omega)); have P1 := Lib.hid (N1.out.keep b1 (by simp))
  have B1 := Lib.hid (B0.out.trans (b1.mono B0.out.size))
  clear b1 N0 N1 B0
  have Q1 := Lib.hid ((Arr.new w1 (V zeros) 61 rfl).row (cs' := V (pv xs)))
  go_wp2_with (refine wpList_store_row rfl 61 _ _ rfl w1.heap.size (V (pv xs)).toArray rfl rfl 61 (V zeros).toArray (Arr.new w1 (V zeros) _ rfl) (size_V (pv_len _)) (by simp [V_len, pv_len, zeros]) (one_V _) ?_)
  refine (permOf_any B m d ys _ _ (HY.out.keep (below_setRow (B1.out.alloc B1.out.size _) (by omega) _) hh2) hm).mono ?_
  rintro e w2 ⟨rfl, b2⟩
  have hs2 : w1.heap.size + 1 ≤ w2.heap.size := by have := b2.size; simpa using this
  have R0 := Lib.hid (((P0.out.alloc _).rowOther (by omega)).keep b2 (by simp; omega))
  have R1 := Lib.hid (((P1.out.alloc _).rowOther (by omega)).keep b2 (by simp; omega))
  have R2 := Lib.hid ((Arr.new w1 (V zeros) _ rfl).row.keep b2 (by simp))
  have B2 := Lib.hid ((below_setRow (B1.out.alloc B1.out.size _) (by omega) _).trans (b2.mono (by simp; omega)))
  clear b2 P0 P1 Q1 B1
  by_cases hall : okB xs = true ∧ okB ys = true ∧ n = m
  · obtain ⟨ox, oy, rfl⟩ := hall
    have HF : Hid (okBB xs ys = true) := Lib.hid (by simp [okBB, ox, oy, LX.out, LY.out])
    have px : pv xs = ext xs := by simp [pv, ox]
    have py : pv ys = ext ys := by simp [pv, oy]
    rw [ox, oy]
    rw [px] at R2 ⊢; rw [py]
    clear ox oy px py
    go_wp2_with (refine wpList_store_row rfl 61 _ _ rfl w2.heap.size (V (ext ys)).toArray rfl rfl 61 (V zeros).toArray (Arr.new w2 (V zeros) _ rfl) (size_V (ext_len _)) (by simp [V_len, ext_len, zeros]) (one_V _) ?_)
    generalize hw3 : (w2.alloc (.cells #[.int .i64 0, .int .i64 0, .int .i64 0, .int .i64 0, .int .i64 0, .int .i64 0, .int .i64 0, .int .i64 0, .int .i64 0, .int .i64 0, .int .i64 0, .int .i64 0, .int .i64 0, .int .i64 0, .int .i64 0, .int .i64 0, .int .i64 0, .int .i64 0, .int .i64 0, .int .i64 0, .int .i64 0, .int .i64 0, .int .i64 0, .int .i64 0] 61)).setRow w2.heap.size (V (ext ys)).toArray = w3
    have S0 : Arr w3 w.heap.size (V zeros) 61 := by rw [← hw3]; exact (R0.out.alloc _).rowOther (by omega)
    have S1 : Arr w3 (w.heap.size + 1) (V zeros) 61 := by rw [← hw3]; exact (R1.out.alloc _).rowOther (by omega)
    have S2 : Arr w3 w1.heap.size (V (ext xs)) 61 := by rw [← hw3]; exact (R2.out.alloc _).rowOther (by omega)
    have S3 : Arr w3 w2.heap.size (V (ext ys)) 61 := by rw [← hw3]; exact (Arr.new w2 (V zeros) _ rfl).row
    have B3 : Hid (Below w.heap.size w w3) := Lib.hid (by rw [← hw3]; exact below_setRow (B2.out.alloc B2.out.size _) (by omega) _)
    clear hw3 R0 R1 R2 B2
    clear HX HY LX LY
    refine wp_region_any (by kernel_rfl) ?_
    generalize hwd : ({ w3 with drawn := w3.drawn + 1 } : World) = wd
    replace S0 : Arr wd w.heap.size (V zeros) 61 := by rw [← hwd]; exact S0
    replace S1 : Arr wd (w.heap.size + 1) (V zeros) 61 := by rw [← hwd]; exact S1
    replace S2 : Arr wd w1.heap.size (V (ext xs)) 61 := by rw [← hwd]; exact S2
    replace S3 : Arr wd w2.heap.size (V (ext ys)) 61 := by rw [← hwd]; exact S3
    replace B3 : Hid (Below w.heap.size w wd) := Lib.hid (by rw [← hwd]; exact below_drew1 B3.out)
    clear hwd w3
    refine wpAny_ready (rs := [0, 1]) (by kernel_rfl) (by simp) (AllReady.cons rfl (fun K hK => ?_) (AllReady.cons rfl (fun K hK => ?_) AllReady.nil))
    · refine step_load_row rfl 61 (.tmp 7) rfl w1.heap.size rfl 61 (V (ext xs)).toArray (0, 0) _ S2 Try.underlying61 rfl (size_V (ext_len _)) ?_; refine hK _ _ ?_; clear hK K
      refine wpAny_ready (rs := [1, 2]) (by kernel_rfl) (by simp) (AllReady.cons rfl (fun K hK => ?_) (AllReady.cons rfl (fun K hK => ?_) AllReady.nil))
      · refine step_load_row rfl 61 (.tmp 9) rfl w2.heap.size rfl 61 (V (ext ys)).toArray (0, 0) _ S3 Try.underlying61 rfl (size_V (ext_len _)) ?_; refine hK _ _ ?_; clear hK K
        refine wpAny_ready (rs := [2]) (by kernel_rfl) (by simp) (AllReady.cons rfl (fun K hK => ?_) AllReady.nil)
        refine step_store_row rfl 61 (.tmp 4) (.tmp 36) rfl w.heap.size (V (ext xs)).toArray rfl rfl 61 (V zeros).toArray S0 (size_V (ext_len _)) (by simp [V_len, zeros, ext_len]) (one_V _) ?_; refine hK _ _ ?_; clear hK K
        refine wpAny_ready (rs := [3]) (by kernel_rfl) (by simp) (AllReady.cons rfl (fun K hK => ?_) AllReady.nil)
        refine step_store_row rfl 61 (.tmp 5) (.tmp 37) rfl (w.heap.size + 1) (V (ext ys)).toArray rfl rfl 61 (V zeros).toArray (S1.rowOther (by omega)) (size_V (ext_len _)) (by simp [V_len, zeros, ext_len]) (one_V _) ?_; refine hK _ _ ?_; clear hK K
        refine wpAny_ready (rs := [4]) (by kernel_rfl) (by simp) (AllReady.cons rfl (fun K hK => ?_) AllReady.nil)
        refine step_assign rfl _ rfl ?_; refine hK _ _ ?_; clear hK K
        refine wpAny_done (by kernel_rfl) ?_ _
        go_wp2
        exact bodyPost_ret (v := .tuple #[.agg (V (ext xs)).toArray, .agg (V (ext ys)).toArray, .bool true]) (results_cell2_tmp rfl _ _ w.heap.size (w.heap.size + 1) 61 (V (ext xs)).toArray (V (ext ys)).toArray (0, 0) _ _ rfl rfl rfl (S0.row.rowOther (by omega)) (S1.rowOther (by omega)).row Try.underlying61 rfl (size_V (ext_len _)) (size_V (ext_len _))) rfl (posts_yes HF.out (below_setRow (below_setRow B3.out (Nat.le_refl _) _) (by omega) _))
      · refine step_store_row rfl 61 (.tmp 4) (.tmp 36) rfl w.heap.size (V (ext xs)).toArray rfl rfl 61 (V zeros).toArray S0 (size_V (ext_len _)) (by simp [V_len, zeros, ext_len]) (one_V _) ?_; refine hK _ _ ?_; clear hK K
        refine wpAny_ready (rs := [1]) (by kernel_rfl) (by simp) (AllReady.cons rfl (fun K hK => ?_) AllReady.nil)
        refine step_load_row rfl 61 (.tmp 9) rfl w2.heap.size rfl 61 (V (ext ys)).toArray (0, 0) _ (S3.rowOther (by omega)) Try.underlying61 rfl (size_V (ext_len _)) ?_; refine hK _ _ ?_; clear hK K
        refine wpAny_ready (rs := [3]) (by kernel_rfl) (by simp) (AllReady.cons rfl (fun K hK => ?_) AllReady.nil)
        refine step_store_row rfl 61 (.tmp 5) (.tmp 37) rfl (w.heap.size + 1) (V (ext ys)).toArray rfl rfl 61 (V zeros).toArray (S1.rowOther (by omega)) (size_V (ext_len _)) (by simp [V_len, zeros, ext_len]) (one_V _) ?_; refine hK _ _ ?_; clear hK K
        refine wpAny_ready (rs := [4]) (by kernel_rfl) (by simp) (AllReady.cons rfl (fun K hK => ?_) AllReady.nil)
        refine step_assign rfl _ rfl ?_; refine hK _ _ ?_; clear hK K
        refine wpAny_done (by kernel_rfl) ?_ _
        go_wp2
        exact bodyPost_ret (v := .tuple #[.agg (V (ext xs)).toArray, .agg (V (ext ys)).toArray, .bool true]) (results_cell2_tmp rfl _ _ w.heap.size (w.heap.size + 1) 61 (V (ext xs)).toArray (V (ext ys)).toArray (0, 0) _ _ rfl rfl rfl (S0.row.rowOther (by omega)) (S1.rowOther (by omega)).row Try.underlying61 rfl (size_V (ext_len _)) (size_V (ext_len _))) rfl (posts_yes HF.out (below_setRow (below_setRow B3.out (Nat.le_refl _) _) (by omega) _))
    · refine step_load_row rfl 61 (.tmp 9) rfl w2.heap.size rfl 61 (V (ext ys)).toArray (0, 0) _ S3 Try.underlying61 rfl (size_V (ext_len _)) ?_; refine hK _ _ ?_; clear hK K
      refine wpAny_ready (rs := [0]) (by kernel_rfl) (by simp) (AllReady.cons rfl (fun K hK => ?_) AllReady.nil)
      refine step_load_row rfl 61 (.tmp 7) rfl w1.heap.size rfl 61 (V (ext xs)).toArray (0, 0) _ S2 Try.underlying61 rfl (size_V (ext_len _)) ?_; refine hK _ _ ?_; clear hK K
      refine wpAny_ready (rs := [2]) (by kernel_rfl) (by simp) (AllReady.cons rfl (fun K hK => ?_) AllReady.nil)
      refine step_store_row rfl 61 (.tmp 4) (.tmp 36) rfl w.heap.size (V (ext xs)).toArray rfl rfl 61 (V zeros).toArray S0 (size_V (ext_len _)) (by simp [V_len, zeros, ext_len]) (one_V _) ?_; refine hK _ _ ?_; clear hK K
      refine wpAny_ready (rs := [3]) (by kernel_rfl) (by simp) (AllReady.cons rfl (fun K hK => ?_) AllReady.nil)
      refine step_store_row rfl 61 (.tmp 5) (.tmp 37) rfl (w.heap.size + 1) (V (ext ys)).toArray rfl rfl 61 (V zeros).toArray (S1.rowOther (by omega)) (size_V (ext_len _)) (by simp [V_len, zeros, ext_len]) (one_V _) ?_; refine hK _ _ ?_; clear hK K
      refine wpAny_ready (rs := [4]) (by kernel_rfl) (by simp) (AllReady.cons rfl (fun K hK => ?_) AllReady.nil)
      refine step_assign rfl _ rfl ?_; refine hK _ _ ?_; clear hK K
      refine wpAny_done (by kernel_rfl) ?_ _
      go_wp2
      exact bodyPost_ret (v := .tuple #[.agg (V (ext xs)).toArray, .agg (V (ext ys)).toArray, .bool true]) (results_cell2_tmp rfl _ _ w.heap.size (w.heap.size + 1) 61 (V (ext xs)).toArray (V (ext ys)).toArray (0, 0) _ _ rfl rfl rfl (S0.row.rowOther (by omega)) (S1.rowOther (by omega)).row Try.underlying61 rfl (size_V (ext_len _)) (size_V (ext_len _))) rfl (posts_yes HF.out (below_setRow (below_setRow B3.out (Nat.le_refl _) _) (by omega) _))
  · by_cases ox : okB xs = true
    · by_cases oy : okB ys = true
      · have hne : n ≠ m := fun e => hall ⟨ox, oy, e⟩
        have HF : Hid (okBB xs ys = false) := Lib.hid (by simp [okBB, ox, oy, LX.out, LY.out, hne])
        have hb : ((n : Int) != (m : Int)) = true := by simp; omega
        rw [ox, oy]
        clear ox oy hall
        go_wp2_with (first | (refine wpList_store_row rfl 61 (.tmp 9) (.tmp 19) rfl w2.heap.size (V (pv ys)).toArray rfl rfl 61 (V zeros).toArray (Arr.new w2 (V zeros) _ rfl) (size_V (pv_len _)) (by simp [V_len, pv_len, zeros]) (one_V _) ?_; generalize hw3 : (w2.alloc (.cells #[.int .i64 0, .int .i64 0, .int .i64 0, .int .i64 0, .int .i64 0, .int .i64 0, .int .i64 0, .int .i64 0, .int .i64 0, .int .i64 0, .int .i64 0, .int .i64 0, .int .i64 0, .int .i64 0, .int .i64 0, .int .i64 0, .int .i64 0, .int .i64 0, .int .i64 0, .int .i64 0, .int .i64 0, .int .i64 0, .int .i64 0, .int .i64 0] 61)).setRow w2.heap.size (V (pv ys)).toArray = w3; have S0 : Hid (Arr w3 w.heap.size (V zeros) 61) := Lib.hid (by rw [← hw3]; exact (R0.out.alloc _).rowOther (by omega)); have S1 : Hid (Arr w3 (w.heap.size + 1) (V zeros) 61) := Lib.hid (by rw [← hw3]; exact (R1.out.alloc _).rowOther (by omega)); have B3 : Hid (Below w.heap.size w w3) := Lib.hid (by rw [← hw3]; exact below_setRow (B2.out.alloc B2.out.size _) (by omega) _); clear hw3 R0 R1 R2 B2) | (refine wpList_store_row rfl 61 (.tmp 4) (.tmp 34) rfl w.heap.size (V zeros).toArray rfl rfl 61 (V zeros).toArray S0.out (size_V zeros_len) rfl (one_V _) ?_) | (refine wpList_store_row rfl 61 (.tmp 5) (.tmp 35) rfl (w.heap.size + 1) (V zeros).toArray rfl rfl 61 (V zeros).toArray (S1.out.rowOther (by omega)) (size_V zeros_len) rfl (one_V _) ?_))
        exact bodyPost_ret (v := .tuple #[.agg (V zeros).toArray, .agg (V zeros).toArray, .bool false]) (results_cell2_tmp rfl _ _ w.heap.size (w.heap.size + 1) 61 (V zeros).toArray (V zeros).toArray (0, 0) _ _ rfl rfl rfl (S0.out.row.rowOther (by omega)) (S1.out.rowOther (by omega)).row Try.underlying61 rfl (size_V zeros_len) (size_V zeros_len)) rfl (posts_no HF.out (below_setRow (below_setRow B3.out (Nat.le_refl _) _) (by omega) _))
      · have oy' : okB ys = false := by simpa using oy
        have HF : Hid (okBB xs ys = false) := Lib.hid (by simp [okBB, oy'])
        rw [ox, oy']
        clear ox oy oy' hall
        go_wp2_with (first | (refine wpList_store_row rfl 61 (.tmp 9) (.tmp 19) rfl w2.heap.size (V (pv ys)).toArray rfl rfl 61 (V zeros).toArray (Arr.new w2 (V zeros) _ rfl) (size_V (pv_len _)) (by simp [V_len, pv_len, zeros]) (one_V _) ?_; generalize hw3 : (w2.alloc (.cells #[.int .i64 0, .int .i64 0, .int .i64 0, .int .i64 0, .int .i64 0, .int .i64 0, .int .i64 0, .int .i64 0, .int .i64 0, .int .i64 0, .int .i64 0, .int .i64 0, .int .i64 0, .int .i64 0, .int .i64 0, .int .i64 0, .int .i64 0, .int .i64 0, .int .i64 0, .int .i64 0, .int .i64 0, .int .i64 0, .int .i64 0, .int .i64 0] 61)).setRow w2.heap.size (V (pv ys)).toArray = w3; have S0 : Hid (Arr w3 w.heap.size (V zeros) 61) := Lib.hid (by rw [← hw3]; exact (R0.out.alloc _).rowOther (by omega)); have S1 : Hid (Arr w3 (w.heap.size + 1) (V zeros) 61) := Lib.hid (by rw [← hw3]; exact (R1.out.alloc _).rowOther (by omega)); have B3 : Hid (Below w.heap.size w w3) := Lib.hid (by rw [← hw3]; exact below_setRow (B2.out.alloc B2.out.size _) (by omega) _); clear hw3 R0 R1 R2 B2) | (refine wpList_store_row rfl 61 (.tmp 4) (.tmp 34) rfl w.heap.size (V zeros).toArray rfl rfl 61 (V zeros).toArray S0.out (size_V zeros_len) rfl (one_V _) ?_) | (refine wpList_store_row rfl 61 (.tmp 5) (.tmp 35) rfl (w.heap.size + 1) (V zeros).toArray rfl rfl 61 (V zeros).toArray (S1.out.rowOther (by omega)) (size_V zeros_len) rfl (one_V _) ?_))
        exact bodyPost_ret (v := .tuple #[.agg (V zeros).toArray, .agg (V zeros).toArray, .bool false]) (results_cell2_tmp rfl _ _ w.heap.size (w.heap.size + 1) 61 (V zeros).toArray (V zeros).toArray (0, 0) _ _ rfl rfl rfl (S0.out.row.rowOther (by omega)) (S1.out.rowOther (by omega)).row Try.underlying61 rfl (size_V zeros_len) (size_V zeros_len)) rfl (posts_no HF.out (below_setRow (below_setRow B3.out (Nat.le_refl _) _) (by omega) _))
    · have ox' : okB xs = false := by simpa using ox
      have HF : Hid (okBB xs ys = false) := Lib.hid (by simp [okBB, ox'])
      rw [ox']
      clear ox ox' hall
      generalize okB ys = q
      go_wp2_with (first | (refine wpList_store_row rfl 61 (.tmp 9) (.tmp 19) rfl w2.heap.size (V (pv ys)).toArray rfl rfl 61 (V zeros).toArray (Arr.new w2 (V zeros) _ rfl) (size_V (pv_len _)) (by simp [V_len, pv_len, zeros]) (one_V _) ?_; generalize hw3 : (w2.alloc (.cells #[.int .i64 0, .int .i64 0, .int .i64 0, .int .i64 0, .int .i64 0, .int .i64 0, .int .i64 0, .int .i64 0, .int .i64 0, .int .i64 0, .int .i64 0, .int .i64 0, .int .i64 0, .int .i64 0, .int .i64 0, .int .i64 0, .int .i64 0, .int .i64 0, .int .i64 0, .int .i64 0, .int .i64 0, .int .i64 0, .int .i64 0, .int .i64 0] 61)).setRow w2.heap.size (V (pv ys)).toArray = w3; have S0 : Hid (Arr w3 w.heap.size (V zeros) 61) := Lib.hid (by rw [← hw3]; exact (R0.out.alloc _).rowOther (by omega)); have S1 : Hid (Arr w3 (w.heap.size + 1) (V zeros) 61) := Lib.hid (by rw [← hw3]; exact (R1.out.alloc _).rowOther (by omega)); have B3 : Hid (Below w.heap.size w w3) := Lib.hid (by rw [← hw3]; exact below_setRow (B2.out.alloc B2.out.size _) (by omega) _); clear hw3 R0 R1 R2 B2) | (refine wpList_store_row rfl 61 (.tmp 4) (.tmp 34) rfl w.heap.size (V zeros).toArray rfl rfl 61 (V zeros).toArray S0.out (size_V zeros_len) rfl (one_V _) ?_) | (refine wpList_store_row rfl 61 (.tmp 5) (.tmp 35) rfl (w.heap.size + 1) (V zeros).toArray rfl rfl 61 (V zeros).toArray (S1.out.rowOther (by omega)) (size_V zeros_len) rfl (one_V _) ?_))
      exact bodyPost_ret (v := .tuple #[.agg (V zeros).toArray, .agg (V zeros).toArray, .bool false]) (results_cell2_tmp rfl _ _ w.heap.size (w.heap.size + 1) 61 (V zeros).toArray (V zeros).toArray (0, 0) _ _ rfl rfl rfl (S0.out.row.rowOther (by omega)) (S1.out.rowOther (by omega)).row Try.underlying61 rfl (size_V zeros_len) (size_V zeros_len)) rfl (posts_no HF.out (below_setRow (below_setRow B3.out (Nat.le_refl _) _) (by omega) _))
end Go.Proofs.Ytglpiopjhddoeaa.permOf

/-
  What the functions on permutations answer, as functions on lists.
-/
namespace Go.Proofs.Ytglpiopjhddoeaa.pm
open Go.Proofs.Ytglpiopjhddoeaa.arr Go.Proofs.Ytglpiopjhddoeaa.inv Go.Proofs.Ytglpiopjhddoeaa.permOf
set_option linter.unusedVariables false
set_option maxRecDepth 100000

theorem Ok.sq {xs : List Int} (h : Ok xs) : Sq (ext xs) := by
  refine ⟨ext_len xs, fun i hi => ?_, fun i hi => ?_⟩
  · rw [ext_at hi]; split
    · exact h.lo i (by assumption)
    · omega
  · rw [ext_at hi]; split
    · have := h.hi i (by assumption); have := h.len; omega
    · omega
theorem idl_sq : Sq idl := by
  refine ⟨tab_len _, fun i hi => ?_, fun i hi => ?_⟩ <;> (unfold idl; rw [tab_get _ hi]; omega)
theorem getD_set {l : List Int} {i k : Nat} {z : Int} : (l.set k z).getD i 0 = if k = i ∧ i < l.length then z else l.getD i 0 := by
  simp only [List.getD, List.getElem?_set]
  by_cases e : k = i
  · subst e
    by_cases h : k < l.length
    · simp [h]
    · simp [h]
  · simp [e]
theorem invTo_range (n : Nat) (qs : List Int) (k : Nat) (hk : k ≤ 24) (i : Nat) : 0 ≤ (invTo n qs k).getD i 0 ∧ (invTo n qs k).getD i 0 < 24 := by
  induction k with
  | zero =>
    simp only [invTo, List.getD, List.getElem?_replicate]
    split <;> simp
  | succ k ih =>
    have := ih (by omega)
    rw [invTo, getD_set]
    split
    · omega
    · exact this
theorem inv_sq (qs : List Int) : Sq (invTo 24 qs 24) :=
  ⟨invTo_len _ _ _, fun i _ => (invTo_range 24 qs 24 (Nat.le_refl _) i).1, fun i _ => (invTo_range 24 qs 24 (Nat.le_refl _) i).2⟩
theorem then_sq {ps qs : List Int} (hp : Sq ps) (hq : Sq qs) : Sq (thenL ps qs) := by
  refine ⟨tab_len _, fun i hi => ?_, fun i hi => ?_⟩
  · unfold thenL; rw [tab_get _ hi]
    exact hq.lo _ (by have := hp.lo i hi; have := hp.hi i hi; omega)
  · unfold thenL; rw [tab_get _ hi]
    exact hq.hi _ (by have := hp.lo i hi; have := hp.hi i hi; omega)

theorem list_eq {l m : List Int} (n : Nat) (h1 : l.length = n) (h2 : m.length = n) (h : ∀ i, i < n → l.getD i 0 = m.getD i 0) : l = m := by
  refine List.ext_getElem? fun i => ?_
  by_cases hi : i < n
  · have := h i hi
    rw [List.getD, List.getD, List.getElem?_eq_getElem (by omega), List.getElem?_eq_getElem (by omega)] at this
    rw [List.getElem?_eq_getElem (by omega), List.getElem?_eq_getElem (by omega)]
    simpa using this
  · rw [List.getElem?_eq_none (by omega), List.getElem?_eq_none (by omega)]
theorem getD_take {l : List Int} {n i : Nat} (h : i < n) : (l.take n).getD i 0 = l.getD i 0 := by
  simp [List.getD, h]

def invF (xs : List Int) : List Int := if okB xs then invTo xs.length xs xs.length else []
theorem invF_len (xs : List Int) : (invF xs).length ≤ 1048576 := by
  unfold invF; split
  · rename_i h; rw [invTo_len]; have := (Ok.of xs h).len; omega
  · simp
theorem take_inv {xs : List Int} (h : Ok xs) : (invTo 24 (ext xs) 24).take xs.length = invTo xs.length xs xs.length := by
  have hl := h.len
  have A : ∀ k, k ≤ xs.length → (invTo 24 (ext xs) k).take xs.length = invTo xs.length xs k := by
    intro k
    induction k with
    | zero => intro _; rw [invTo, invTo, List.take_replicate, Nat.min_eq_left hl]
    | succ k ih =>
      intro hk
      have e : (ext xs).getD k 0 = xs.getD k 0 := by rw [ext_at (by omega), if_pos (by omega)]
      rw [invTo, invTo, e, List.take_set, ih (by omega)]
  have B : ∀ k, xs.length ≤ k → k ≤ 24 → (invTo 24 (ext xs) k).take xs.length = invTo xs.length xs xs.length := by
    intro k hk
    induction k with
    | zero =>
      intro _
      have e : xs.length = 0 := by omega
      rw [A 0 (Nat.zero_le _), e]
    | succ k ih =>
      intro h24
      by_cases e : xs.length = k + 1
      · rw [← e]; exact A _ (Nat.le_refl _)
      · have hk' : xs.length ≤ k := by omega
        have ee : (ext xs).getD k 0 = (k : Int) := by rw [ext_at (by omega), if_neg (by omega)]
        rw [invTo, ee, Int.toNat_natCast, List.take_set_of_le hk', ih hk' (by omega)]
  exact B 24 hl (Nat.le_refl _)

def thn (xs ys : List Int) : List Int := xs.map fun x => ys.getD x.toNat 0
def thenF (xs ys : List Int) : List Int := if okBB xs ys then thn xs ys else []
theorem okBB_iff {xs ys : List Int} : okBB xs ys = true ↔ okB xs = true ∧ okB ys = true ∧ xs.length = ys.length := by
  simp [okBB, and_assoc]
theorem thenF_len (xs ys : List Int) : (thenF xs ys).length ≤ 1048576 := by
  unfold thenF; split
  · rename_i h; have := (Ok.of xs (okBB_iff.1 h).1).len; simp [thn]; omega
  · simp
theorem take_then {xs ys : List Int} (h : Ok xs) (h' : Ok ys) (e : xs.length = ys.length) : (thenL (ext xs) (ext ys)).take xs.length = thn xs ys := by
  have hl := h.len
  refine list_eq xs.length (by simp [thenL, tab_len]; omega) (by simp [thn]) fun i hi => ?_
  rw [getD_take hi]
  unfold thenL
  rw [tab_get _ (by omega), ext_at (xs := xs) (i := i) (by omega), if_pos hi]
  have h1 := h.lo i hi; have h2 := h.hi i hi
  rw [ext_at (by omega), if_pos (by omega)]
  simp [thn, List.getD, List.getElem?_eq_getElem hi]

def idF (a : Int) : List Int := if 0 ≤ a ∧ a ≤ 24 then (List.range a.toNat).map (fun (i : Nat) => (i : Int)) else []
theorem idF_len (a : Int) : (idF a).length ≤ 1048576 := by
  unfold idF; split
  · simp; omega
  · simp
theorem take_id {n : Nat} (h : n ≤ 24) : idl.take n = (List.range n).map (fun (i : Nat) => (i : Int)) := by
  refine list_eq n (by simp [idl, tab_len]; omega) (by simp) fun i hi => ?_
  rw [getD_take hi]
  unfold idl
  rw [tab_get _ (by omega)]
  simp [List.getD, hi]
end Go.Proofs.Ytglpiopjhddoeaa.pm

/-
  More on permutations as lists: each number is met; renaming.
-/
namespace Go.Proofs.Ytglpiopjhddoeaa.pm
open Go.Proofs.Ytglpiopjhddoeaa.arr Go.Proofs.Ytglpiopjhddoeaa.inv Go.Proofs.Ytglpiopjhddoeaa.permOf
set_option linter.unusedVariables false
set_option maxRecDepth 100000

theorem nodup_le : ∀ (n : Nat) (l : List Nat), l.Nodup → (∀ x ∈ l, x < n) → l.length ≤ n := by
  intro n
  induction n with
  | zero =>
    intro l _ h
    cases l with
    | nil => simp
    | cons a t => have := h a (by simp); omega
  | succ n ih =>
    intro l hd h
    by_cases hm : n ∈ l
    · have h1 := ih (l.erase n) (hd.erase n) (fun x hx => by
        have h2 := (List.Nodup.mem_erase_iff hd).1 hx
        have := h x h2.2
        have := h2.1
        omega)
      rw [List.length_erase_of_mem hm] at h1
      omega
    · have h1 := ih l hd (fun x hx => by
        have := h x hx
        have : x ≠ n := fun e => hm (e ▸ hx)
        omega)
      omega
theorem onto_of_inj (n : Nat) (f : Nat → Nat) (h1 : ∀ i, i < n → f i < n) (h2 : ∀ i j, i < n → j < n → f i = f j → i = j) (y : Nat) (hy : y < n) : ∃ k, k < n ∧ f k = y := by
  by_cases h : ∃ k, k < n ∧ f k = y
  · exact h
  · exfalso
    have hn : ((List.range n).map f).Nodup := by
      unfold List.Nodup
      rw [List.pairwise_map]
      refine List.Pairwise.imp_of_mem ?_ (List.pairwise_lt_range (n := n))
      intro a b ha hb hab e
      simp at ha hb
      have := h2 a b ha hb e
      omega
    have hy' : ¬ y ∈ (List.range n).map f := by
      intro hm
      obtain ⟨k, hk, e⟩ := List.mem_map.1 hm
      simp at hk
      exact h ⟨k, hk, e⟩
    have := nodup_le n (y :: (List.range n).map f) (List.nodup_cons.2 ⟨hy', hn⟩) (by
      intro x hx
      rcases List.mem_cons.1 hx with rfl | hx
      · exact hy
      · obtain ⟨k, hk, rfl⟩ := List.mem_map.1 hx
        simp at hk
        exact h1 k hk)
    simp at this
    omega
theorem Ok.onto {ys : List Int} (h : Ok ys) {y : Nat} (hy : y < ys.length) : ∃ k, k < ys.length ∧ ys.getD k 0 = (y : Int) := by
  obtain ⟨k, hk, e⟩ := onto_of_inj ys.length (fun i => (ys.getD i 0).toNat) (fun i hi => by have := h.lo i hi; have := h.hi i hi; omega) (fun i j hi hj e => h.inj i j hi hj (by have := h.lo i hi; have := h.lo j hj; omega)) y hy
  exact ⟨k, hk, by have := h.lo k hk; omega⟩

/-- n cells; cell f j gets g j, for j up to k. -/
def setTo (n : Nat) (f : Nat → Nat) (g : Nat → Int) : Nat → List Int
  | 0 => List.replicate n 0
  | k + 1 => (setTo n f g k).set (f k) (g k)
theorem setTo_len (n : Nat) (f : Nat → Nat) (g : Nat → Int) (k : Nat) : (setTo n f g k).length = n := by
  induction k with
  | zero => simp [setTo]
  | succ k ih => simp [setTo, ih]
theorem setTo_at (n : Nat) (f : Nat → Nat) (g : Nat → Int) (k : Nat) (hf : ∀ i j, i < k → j < k → f i = f j → i = j) (hl : ∀ i, i < k → f i < n) {j : Nat} (hj : j < k) : (setTo n f g k).getD (f j) 0 = g j := by
  induction k with
  | zero => omega
  | succ k ih =>
    rw [setTo, getD_set]
    by_cases e : j = k
    · subst e; rw [if_pos ⟨rfl, by rw [setTo_len]; exact hl j (by omega)⟩]
    · rw [if_neg (fun h => e (hf j k (by omega) (by omega) h.1.symm)), ih (fun i j hi hj => hf i j (by omega) (by omega)) (fun i hi => hl i (by omega)) (by omega)]
theorem invTo_eq (n : Nat) (qs : List Int) (k : Nat) : invTo n qs k = setTo n (fun j => (qs.getD j 0).toNat) (fun j => (j : Int)) k := by
  induction k with
  | zero => rfl
  | succ k ih => rw [invTo, setTo, ih]
theorem Ok.injN {ys : List Int} (h : Ok ys) : ∀ i j, i < ys.length → j < ys.length → (ys.getD i 0).toNat = (ys.getD j 0).toNat → i = j :=
  fun i j hi hj e => h.inj i j hi hj (by have := h.lo i hi; have := h.lo j hj; omega)
theorem Ok.ltN {ys : List Int} (h : Ok ys) : ∀ i, i < ys.length → (ys.getD i 0).toNat < ys.length :=
  fun i hi => by have := h.lo i hi; have := h.hi i hi; omega
theorem inv_at {ys : List Int} (h : Ok ys) {k : Nat} (hk : k < ys.length) : (invTo ys.length ys ys.length).getD (ys.getD k 0).toNat 0 = (k : Int) := by
  rw [invTo_eq, setTo_at _ _ _ _ h.injN h.ltN hk]
def renTo (n : Nat) (xs ys : List Int) (k : Nat) : List Int := setTo n (fun j => (ys.getD j 0).toNat) (fun j => ys.getD (xs.getD j 0).toNat 0) k
theorem renTo_len (n : Nat) (xs ys : List Int) (k : Nat) : (renTo n xs ys k).length = n := setTo_len _ _ _ _
theorem renTo_succ (n : Nat) (xs ys : List Int) (k : Nat) : renTo n xs ys (k + 1) = (renTo n xs ys k).set (ys.getD k 0).toNat (ys.getD (xs.getD k 0).toNat 0) := rfl
def renF (xs ys : List Int) : List Int := if okBB xs ys then renTo xs.length xs ys xs.length else []
theorem renF_len (xs ys : List Int) : (renF xs ys).length ≤ 1048576 := by
  unfold renF; split
  · rename_i h; have := (Ok.of xs (okBB_iff.1 h).1).len; rw [renTo_len]; omega
  · simp
theorem ren_at {xs ys : List Int} (h' : Ok ys) (e : xs.length = ys.length) {k : Nat} (hk : k < xs.length) : (renTo xs.length xs ys xs.length).getD (ys.getD k 0).toNat 0 = ys.getD (xs.getD k 0).toNat 0 := by
  unfold renTo
  rw [e]
  exact setTo_at _ _ _ _ h'.injN h'.ltN (by omega)
theorem thenL_at (ps qs : List Int) {i : Nat} (h : i < 24) : (thenL ps qs).getD i 0 = qs.getD (ps.getD i 0).toNat 0 := by
  unfold thenL; rw [tab_get _ h]
theorem take_ren {xs ys : List Int} (h : Ok xs) (h' : Ok ys) (e : xs.length = ys.length) : (thenL (thenL (invTo 24 (ext ys) 24) (ext xs)) (ext ys)).take xs.length = renTo xs.length xs ys xs.length := by
  have hl := h.len
  refine list_eq xs.length (by simp [thenL, tab_len]; omega) (renTo_len _ _ _ _) fun i hi => ?_
  obtain ⟨k, hk, ek⟩ := h'.onto (y := i) (by omega)
  have e1 : (invTo 24 (ext ys) 24).getD i 0 = (k : Int) := by
    rw [← getD_take (n := ys.length) (by omega), take_inv h']
    have := inv_at h' hk
    rw [ek] at this
    simpa using this
  rw [getD_take hi, thenL_at _ _ (by omega), thenL_at _ _ (by omega), e1, Int.toNat_natCast]
  have h1 := h.lo k (by omega); have h2 := h.hi k (by omega)
  rw [ext_at (xs := xs) (i := k) (by omega), if_pos (by omega), ext_at (by omega), if_pos (by omega)]
  have := ren_at (xs := xs) h' e (k := k) (by omega)
  rw [ek] at this
  simpa using this.symm
end Go.Proofs.Ytglpiopjhddoeaa.pm

/-
  The elements that two permutations reach from one, in the order in which they are met.
-/
namespace Go.Proofs.Ytglpiopjhddoeaa.pm
open Go.Proofs.Ytglpiopjhddoeaa.arr Go.Proofs.Ytglpiopjhddoeaa.inv Go.Proofs.Ytglpiopjhddoeaa.permOf
set_option linter.unusedVariables false
set_option maxRecDepth 100000

def add1 (l : List Int) (x : Int) : List Int := if x ∈ l then l else l ++ [x]
def rnd (ps qs l : List Int) (k : Nat) : List Int := if k < l.length then add1 (add1 l (ps.getD (l.getD k 0).toNat 0)) (qs.getD (l.getD k 0).toNat 0) else l
def rs (ps qs : List Int) (f : Int) : Nat → List Int
  | 0 => [f]
  | k + 1 => rnd ps qs (rs ps qs f k) k
/-- Different numbers from 0 up to n. -/
structure In (n : Nat) (l : List Int) : Prop where
  nd : l.Nodup
  lo : ∀ x ∈ l, 0 ≤ x
  hi : ∀ x ∈ l, x < n
theorem In.len {n : Nat} {l : List Int} (h : In n l) : l.length ≤ n := by
  have := nodup_le n (l.map Int.toNat) (by
    unfold List.Nodup
    rw [List.pairwise_map]
    refine List.Pairwise.imp_of_mem ?_ h.nd
    intro a b ha hb hab e
    have := h.lo a ha; have := h.lo b hb
    exact hab (by omega)) (by
    intro x hx
    obtain ⟨y, hy, rfl⟩ := List.mem_map.1 hx
    have := h.lo y hy; have := h.hi y hy
    omega)
  simpa using this
theorem In.add {n : Nat} {l : List Int} (h : In n l) {x : Int} (h0 : 0 ≤ x) (h1 : x < n) : In n (add1 l x) := by
  unfold add1
  split
  · exact h
  · rename_i hx
    refine ⟨?_, fun y hy => ?_, fun y hy => ?_⟩
    · rw [List.nodup_append]
      exact ⟨h.nd, by simp, fun a ha b hb e => by simp at hb; subst hb; exact hx (e ▸ ha)⟩
    · rcases List.mem_append.1 hy with hy | hy
      · exact h.lo y hy
      · simp at hy; subst hy; exact h0
    · rcases List.mem_append.1 hy with hy | hy
      · exact h.hi y hy
      · simp at hy; subst hy; exact h1
theorem add1_le (l : List Int) (x : Int) : l.length ≤ (add1 l x).length := by unfold add1; split <;> simp
/-- Numbers from 0 up to n go to such numbers. -/
def Maps (n : Nat) (ps : List Int) : Prop := ∀ i, i < n → 0 ≤ ps.getD i 0 ∧ ps.getD i 0 < n
theorem Ok.maps {xs : List Int} (h : Ok xs) : Maps xs.length xs := fun i hi => ⟨h.lo i hi, h.hi i hi⟩
theorem Sq.maps {xs : List Int} (h : Sq xs) : Maps 24 xs := fun i hi => ⟨h.lo i hi, h.hi i hi⟩
theorem In.at_ {n : Nat} {l : List Int} (h : In n l) {k : Nat} (hk : k < l.length) : ∃ z : Nat, z < n ∧ l[k]? = some (z : Int) ∧ l.getD k 0 = (z : Int) := by
  have hm : l[k] ∈ l := List.getElem_mem hk
  have h1 := h.lo _ hm; have h2 := h.hi _ hm
  refine ⟨l[k].toNat, by omega, ?_, ?_⟩
  · rw [List.getElem?_eq_getElem hk]; congr 1; omega
  · simp [List.getD, List.getElem?_eq_getElem hk]; omega
theorem In.rnd {n : Nat} {l ps qs : List Int} (h : In n l) (hp : Maps n ps) (hq : Maps n qs) (k : Nat) : In n (rnd ps qs l k) := by
  unfold pm.rnd
  split
  · rename_i hk
    obtain ⟨z, hz, _, e⟩ := h.at_ hk
    rw [e, Int.toNat_natCast]
    exact (h.add (hp z hz).1 (hp z hz).2).add (hq z hz).1 (hq z hz).2
  · exact h
theorem rs_in {n : Nat} {ps qs : List Int} (hp : Maps n ps) (hq : Maps n qs) {f : Int} (h0 : 0 ≤ f) (h1 : f < n) (k : Nat) : In n (rs ps qs f k) := by
  induction k with
  | zero => exact ⟨by simp [rs], fun x hx => by simp [rs] at hx; omega, fun x hx => by simp [rs] at hx; omega⟩
  | succ k ih => exact ih.rnd hp hq k
theorem rs_stay (ps qs : List Int) (f : Int) {k : Nat} (h : (rs ps qs f k).length ≤ k) (j : Nat) : rs ps qs f (k + j) = rs ps qs f k := by
  induction j with
  | zero => rfl
  | succ j ih =>
    show pm.rnd ps qs (rs ps qs f (k + j)) (k + j) = _
    rw [ih]
    unfold pm.rnd
    rw [if_neg (by omega)]
theorem rs_stop (ps qs : List Int) (f : Int) {k m : Nat} (h : (rs ps qs f k).length ≤ k) (hm : k ≤ m) : rs ps qs f m = rs ps qs f k := by
  obtain ⟨j, rfl⟩ : ∃ j, m = k + j := ⟨m - k, by omega⟩
  exact rs_stay ps qs f h j
theorem rs_step (ps qs : List Int) (f : Int) {k z : Nat} (h : k < (rs ps qs f k).length) (hz : (rs ps qs f k).getD k 0 = (z : Int)) : rs ps qs f (k + 1) = add1 (add1 (rs ps qs f k) (ps.getD z 0)) (qs.getD z 0) := by
  show pm.rnd ps qs (rs ps qs f k) k = _
  unfold pm.rnd
  rw [if_pos h, hz, Int.toNat_natCast]
theorem rs_le (ps qs : List Int) (f : Int) {k : Nat} (h : k < (rs ps qs f k).length) : k + 1 ≤ (rs ps qs f (k + 1)).length := by
  show _ ≤ (pm.rnd ps qs (rs ps qs f k) k).length
  unfold pm.rnd
  rw [if_pos h]
  exact Nat.le_trans h (Nat.le_trans (add1_le _ _) (add1_le _ _))
theorem rs_congr {n : Nat} {ps qs ps' qs' : List Int} (hp : Maps n ps) (hq : Maps n qs) (h1 : ∀ i, i < n → ps'.getD i 0 = ps.getD i 0) (h2 : ∀ i, i < n → qs'.getD i 0 = qs.getD i 0) {f : Int} (hf0 : 0 ≤ f) (hf1 : f < n) (k : Nat) : rs ps' qs' f k = rs ps qs f k := by
  induction k with
  | zero => rfl
  | succ k ih =>
    show pm.rnd ps' qs' (rs ps' qs' f k) k = pm.rnd ps qs (rs ps qs f k) k
    rw [ih]
    unfold pm.rnd
    split
    · rename_i hk
      obtain ⟨z, hz, _, e⟩ := (rs_in hp hq hf0 hf1 k).at_ hk
      rw [e, Int.toNat_natCast, h1 z hz, h2 z hz]
    · rfl
/-- All that are reached. -/
def reach (ps qs : List Int) (f : Int) : List Int := rs ps qs f ps.length
theorem reach_of {ps qs : List Int} {n : Nat} (hn : ps.length = n) {f : Int} {k : Nat} (hk : k ≤ n) (h : (rs ps qs f k).length ≤ k) : rs ps qs f k = reach ps qs f := by
  unfold reach; rw [hn]; exact (rs_stop ps qs f h hk).symm
theorem reach_ext {xs ys : List Int} (h : Ok xs) (h' : Ok ys) (e : xs.length = ys.length) {f : Int} (hf0 : 0 ≤ f) (hf1 : f < xs.length) : reach (ext xs) (ext ys) f = reach xs ys f := by
  have hl := h.len
  have hy : Maps xs.length ys := by rw [e]; exact h'.maps
  unfold reach
  rw [ext_len, rs_congr (ps' := ext xs) (qs' := ext ys) h.maps hy (fun i hi => by rw [ext_at (by omega), if_pos hi]) (fun i hi => by rw [ext_at (by omega), if_pos (by omega)]) hf0 hf1]
  exact rs_stop _ _ _ ((rs_in h.maps hy hf0 hf1 _).len) hl
def transB (xs ys : List Int) : Bool := okBB xs ys && decide (0 < xs.length) && decide ((reach xs ys 0).length = xs.length)

def flagsOf (l : List Int) : List Bool := tabB fun j => decide ((j : Int) ∈ l)
theorem flagsOf_add {l : List Int} {z : Nat} (hz : ¬ (z : Int) ∈ l) : (flagsOf l).set z true = flagsOf (add1 l (z : Int)) := by
  refine tabB_set _ _ fun j hj => ?_
  unfold add1
  rw [if_neg hz]
  by_cases hjz : j = z
  · subst hjz; simp
  · have : ¬ ((j : Int) = (z : Int)) := by omega
    simp [hjz, this]
end Go.Proofs.Ytglpiopjhddoeaa.pm
