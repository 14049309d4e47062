import Derived.Test.YtngglhbcpeigcaaY02
import Derived.Laws.CopyOwn
import Derived.RegionTactic
import Derived.BigRegion
/-
  Contracts of the methods of impl.perm: list, inverse, then.
-/
namespace Go.Proofs.Ytngglhbcpeigcaa.inv
open Go.ChangeShapes Go.WideShapes Go.ChangeAt Go.RowKit
open Go.Proofs.Ytngglhbcpeigcaa.mem Go.Proofs.Ytngglhbcpeigcaa.ints Go.Proofs.Ytngglhbcpeigcaa.arr Go.Proofs.Ytngglhbcpeigcaa.pm Go.Proofs.Ytngglhbcpeigcaa.permOk Go.Proofs.Ytngglhbcpeigcaa.permOf
set_option linter.unusedVariables false
set_option maxRecDepth 100000

/-- All numbers are from 0 up to 24. -/
structure Sq (qs : List Int) : Prop where
  len : qs.length = 24
  lo : ∀ i, i < 24 → 0 ≤ qs.getD i 0
  hi : ∀ i, i < 24 → qs.getD i 0 < 24
theorem Sq.at_ {qs : List Int} (h : Sq qs) {i : Nat} (hi : i < 24) : ∃ z : Nat, z < 24 ∧ qs[i]? = some (z : Int) ∧ qs.getD i 0 = (z : Int) := by
  have h1 := h.lo i hi; have h2 := h.hi i hi
  have e : qs[i]? = some (qs.getD i 0) := by rw [List.getD, List.getElem?_eq_getElem (by rw [h.len]; exact hi)]; rfl
  exact ⟨(qs.getD i 0).toNat, by omega, by rw [e]; congr 1; omega, by omega⟩

theorem index_row (l : List Int) (k : Nat) (z : Int) (hk : k < 24) (hz : l[k]? = some z) (w : World) :
    (Instr.index 60 (.agg (V l).toArray) (.int .i64 (k : Int))).run Try.prog w = .ok (.int .i64 z) w := by
  have hs : (sizeOf 3).run Try.prog w = .ok 1 w := by kernel_rfl
  have h2 : (V l)[k]? = some (.int .i64 z) := V_get hz
  simp [Instr.index, asIntOf, run_underlying Try.underlying60, hk, hs, part, h2]

/-- Where k up to n goes under the inverse of qs, as far as the first k elements say. -/
def invTo (n : Nat) (qs : List Int) : Nat → List Int
  | 0 => List.replicate n 0
  | k + 1 => (invTo n qs k).set (qs.getD k 0).toNat (k : Int)
theorem invTo_len (n : Nat) (qs : List Int) (k : Nat) : (invTo n qs k).length = n := by
  induction k with
  | zero => simp [invTo]
  | succ k ih => simp [invTo, ih]
def InvRel (qs : List Int) (w wr : World) (k : Nat) : Prop :=
  Arr wr (w.heap.size + 1) (V zeros) 60 ∧ Arr wr (w.heap.size + 2) (V (invTo 24 qs k)) 60 ∧ Below w.heap.size w wr

set_option maxHeartbeats 1000000 in
theorem inverse_any (qs : List Int) (w : World) (hq : Sq qs) :
    Calls Try.prog 73 #[.agg (V qs).toArray] w fun e w' => e = .returned (.agg (V (invTo 24 qs 24)).toArray) ∧ Below w.heap.size w w' := by
  have HQ := Lib.hid hq; clear hq
  go_enter Try.func73, Try.ntmps73
  go_wp2_with (refine wpList_load_row rfl 60 _ rfl w.heap.size rfl 60 (V qs).toArray (0, 0) _ (((Arr.new w (V qs) 60 rfl).alloc _).alloc _) Try.underlying60 rfl (size_V HQ.out.len) ?_)
  go_loopw [7] (fun i wr => ∃ k : Nat, k ≤ 24 ∧ i = .int .i64 k ∧ InvRel qs w wr k) (fun i _ => 24 - (intOf i).toNat)
  case atStart =>
    exact ⟨0, Nat.zero_le _, rfl, (Arr.new _ (V zeros) _ (by simp)).alloc _, Arr.new _ (V zeros) _ (by simp), (((Below.refl _ _).alloc (Nat.le_refl _) _).alloc (by simp) _).alloc (by simp; omega) _⟩
  case round =>
    obtain ⟨k, hk, rfl, hr⟩ := hrel
    have HR := Lib.hid hr; clear hr
    by_cases hlt : k < 24
    · obtain ⟨z, hz, hqz, hqd⟩ := HQ.out.at_ hlt
      have hvz := index_row qs k z hlt hqz
      have HD := Lib.hid hqd; clear hqz hqd
      have hc : wr.cell? ⟨w.heap.size + 2, z, none⟩ = some (.int .i64 ((invTo 24 qs k).getD z 0)) := HR.out.2.1.cell (V_getD (by rw [invTo_len]; exact hz))
      have hf := HR.out.2.1.frozen z
      go_wp2
      go_roundw
      case rel =>
        refine ⟨k + 1, by omega, by go_num, HR.out.1.other (by omega) _, ?_, HR.out.2.2.setCell (by simp; omega) _⟩
        have h := HR.out.2.1.set_ z (.int .i64 (k : Int))
        rw [V_set] at h
        have e : invTo 24 qs (k + 1) = (invTo 24 qs k).set z (k : Int) := by rw [invTo, HD.out]; rfl
        rw [e]
        exact h
      case measure => simp [intOf]; omega
    · obtain rfl : k = 24 := by omega
      have H1 := Lib.hid HR.out.1; have H2 := Lib.hid HR.out.2.1; have HB := Lib.hid HR.out.2.2; clear HR
      have HL := Lib.hid (invTo_len 24 qs 24)
      generalize hr : invTo 24 qs 24 = r at H2 HL
      have HRR := Lib.hid hr; clear hr
      go_wp2_with (first | (refine wpList_load_row rfl 60 (.tmp 3) rfl (w.heap.size + 2) rfl 60 (V r).toArray (0, 0) _ H2.out Try.underlying60 rfl (size_V HL.out) ?_) | (refine wpList_store_row rfl 60 (.tmp 2) (.tmp 15) rfl (w.heap.size + 1) (V r).toArray rfl rfl 60 (V zeros).toArray H1.out (size_V HL.out) (by simp [V_len, HL.out, zeros]) (one_V _) ?_))
      exact bodyPost_ret (v := .agg (V r).toArray) (results_cell_row rfl _ _ (w.heap.size + 1) 60 (V r).toArray (0, 0) _ rfl H1.out.row Try.underlying60 rfl (size_V HL.out)) rfl ⟨by rw [HRR.out], arr.below_setRow HB.out (by omega) _⟩

/-- First ps, then qs. -/
def thenL (ps qs : List Int) : List Int := tab fun i => qs.getD (ps.getD i 0).toNat 0
def ThenRel (ps qs : List Int) (w wr : World) (k : Nat) : Prop :=
  Arr wr (w.heap.size + 1) (V qs) 60 ∧ Arr wr (w.heap.size + 2) (V zeros) 60 ∧ Arr wr (w.heap.size + 3) (V (tab fun i => if i < k then qs.getD (ps.getD i 0).toNat 0 else 0)) 60 ∧ Below w.heap.size w wr

set_option maxHeartbeats 1000000 in
theorem then_any (ps qs : List Int) (w : World) (hp : Sq ps) (hq : Sq qs) :
    Calls Try.prog 72 #[.agg (V ps).toArray, .agg (V qs).toArray] w fun e w' => e = .returned (.agg (V (thenL ps qs)).toArray) ∧ Below w.heap.size w w' := by
  have HP := Lib.hid hp; have HQ := Lib.hid hq; clear hp hq
  go_enter Try.func72, Try.ntmps72
  go_wp2_with (refine wpList_load_row rfl 60 _ rfl w.heap.size rfl 60 (V ps).toArray (0, 0) _ ((((Arr.new w (V ps) 60 rfl).alloc _).alloc _).alloc _) Try.underlying60 rfl (size_V HP.out.len) ?_)
  go_loopw [9] (fun i wr => ∃ k : Nat, k ≤ 24 ∧ i = .int .i64 k ∧ ThenRel ps qs w wr k) (fun i _ => 24 - (intOf i).toNat)
  case atStart =>
    exact ⟨0, Nat.zero_le _, rfl, ((Arr.new _ (V qs) _ (by simp)).alloc _).alloc _, (Arr.new _ (V zeros) _ (by simp)).alloc _, Arr.new _ (V zeros) _ (by simp), ((((Below.refl _ _).alloc (Nat.le_refl _) _).alloc (by simp) _).alloc (by simp; omega) _).alloc (by simp; omega) _⟩
  case round =>
    obtain ⟨k, hk, rfl, hr⟩ := hrel
    have HR := Lib.hid hr; clear hr
    by_cases hlt : k < 24
    · obtain ⟨z, hz, hqz, hqd⟩ := HP.out.at_ hlt
      have hvz := index_row ps k z hlt hqz
      have HD := Lib.hid hqd; clear hqz hqd
      have hcq : wr.cell? ⟨w.heap.size + 1, z, none⟩ = some (.int .i64 (qs.getD z 0)) := HR.out.1.cell (V_getD (by rw [HQ.out.len]; exact hz))
      have hc : wr.cell? ⟨w.heap.size + 3, k, none⟩ = some (.int .i64 ((tab fun i => if i < k then qs.getD (ps.getD i 0).toNat 0 else 0).getD k 0)) := HR.out.2.2.1.cell (V_getD (by rw [tab_len]; exact hlt))
      have hf := HR.out.2.2.1.frozen k
      go_wp2
      go_roundw
      case rel =>
        refine ⟨k + 1, by omega, by go_num, HR.out.1.other (by omega) _, HR.out.2.1.other (by omega) _, ?_, HR.out.2.2.2.setCell (by simp; omega) _⟩
        have h := HR.out.2.2.1.set_ k (.int .i64 (qs.getD z 0))
        rw [V_set] at h
        have e := tab_set (fun i => if i < k then qs.getD (ps.getD i 0).toNat 0 else 0) (fun i => if i < k + 1 then qs.getD (ps.getD i 0).toNat 0 else 0) (k := k) (fun j hj => by
          by_cases e : j = k
          · subst e; simp
          · simp only [if_neg e]; split <;> split <;> first | rfl | omega)
        simp only [Nat.lt_succ_self, if_true] at e
        rw [HD.out, Int.toNat_natCast] at e
        rw [e] at h
        exact h
      case measure => simp [intOf]; omega
    · obtain rfl : k = 24 := by omega
      have er : (tab fun i => if i < 24 then qs.getD (ps.getD i 0).toNat 0 else 0) = thenL ps qs := by
        unfold thenL tab
        refine List.map_congr_left fun i hi => ?_
        simp at hi
        simp [hi]
      have H1 := Lib.hid HR.out.2.1; have h2 := HR.out.2.2.1; have HB := Lib.hid HR.out.2.2.2; clear HR
      rw [er] at h2
      have H2 := Lib.hid h2; clear h2 er
      have HL : Hid ((thenL ps qs).length = 24) := Lib.hid (tab_len _)
      generalize hr : thenL ps qs = r at H2 HL
      have HRR := Lib.hid hr; clear hr
      go_wp2_with (first | (refine wpList_load_row rfl 60 (.tmp 5) rfl (w.heap.size + 3) rfl 60 (V r).toArray (0, 0) _ H2.out Try.underlying60 rfl (size_V HL.out) ?_) | (refine wpList_store_row rfl 60 (.tmp 4) (.tmp 19) rfl (w.heap.size + 2) (V r).toArray rfl rfl 60 (V zeros).toArray H1.out (size_V HL.out) (by simp [V_len, HL.out, zeros]) (one_V _) ?_))
      exact bodyPost_ret (v := .agg (V r).toArray) (results_cell_row rfl _ _ (w.heap.size + 2) 60 (V r).toArray (0, 0) _ rfl H1.out.row Try.underlying60 rfl (size_V HL.out)) rfl ⟨by rw [HRR.out], arr.below_setRow HB.out (by omega) _⟩

theorem slice_row (b n : Nat) (w : World) (hn : n ≤ 24) :
    (Instr.sliceAt 60 (.pointer (some ⟨b, 0, none⟩)) none (some (.int .i64 (n : Int))) none).run Try.prog w = .ok (.slice (some ⟨b, 0, none⟩) n 24) w := by
  have h := run_sliceAt_array_h (P := Try.prog) (t := 60) (w := w) (a := ⟨b, 0, none⟩) Try.underlying60 .i64 (n : Int) (by omega) (by show (n : Int) ≤ 24; omega)
  exact h.trans (by kernel_rfl)
end Go.Proofs.Ytngglhbcpeigcaa.inv

/-
  Contract of impl.permsOf.
-/
namespace Go.Proofs.Ytngglhbcpeigcaa.permOf
open Go.ChangeShapes Go.WideShapes Go.ChangeAt Go.RowKit
open Go.Proofs.Ytngglhbcpeigcaa.mem Go.Proofs.Ytngglhbcpeigcaa.ints Go.Proofs.Ytngglhbcpeigcaa.arr Go.Proofs.Ytngglhbcpeigcaa.pm Go.Proofs.Ytngglhbcpeigcaa.permOk
set_option linter.unusedVariables false
set_option maxRecDepth 100000

def okBB (xs ys : List Int) : Bool := okB xs && okB ys && decide (xs.length = ys.length)
def PermsPost (xs ys : List Int) (w : World) (e : Ending) (w' : World) : Prop :=
  e = .returned (.tuple #[.agg (V (if okBB xs ys then ext xs else zeros)).toArray, .agg (V (if okBB xs ys then ext ys else zeros)).toArray, .bool (okBB xs ys)]) ∧ Below w.heap.size w w'
theorem posts_no {xs ys : List Int} {w w' : World} (h : okBB xs ys = false) (hb : Below w.heap.size w w') : PermsPost xs ys w (.returned (.tuple #[.agg (V zeros).toArray, .agg (V zeros).toArray, .bool false])) w' := by
  refine ⟨?_, hb⟩
  simp [h]
theorem posts_yes {xs ys : List Int} {w w' : World} (h : okBB xs ys = true) (hb : Below w.heap.size w w') : PermsPost xs ys w (.returned (.tuple #[.agg (V (ext xs)).toArray, .agg (V (ext ys)).toArray, .bool true])) w' := by
  refine ⟨?_, hb⟩
  simp [h]

theorem step_load_row {P : Program} {ops : Array Oper} {o : Oper} {a : Act} {w : World} {K : Act → World → Prop} {Q : Exit → Act → World → Prop} {E : Prop} (hgd : o.guard = none) (ty : TypeId) (x : Operand) (ho : o.op = .load ty x)
    (g : Nat) (hx : a.eval x = .pointer (some ⟨g, 0, none⟩)) (t : TypeId) (cs : Array Value) (fr : Nat × Nat) (d : TypeDesc) (hg : w.heap[g]? = some (.cells cs t fr))
    (hu : P.underlying ty = some d) (hd : (match d with | .struct _ | .array _ _ => true | _ => false) = true) (hi : (P.info? ty).map (·.size) = some cs.size)
    (h : K (a.put o.dst (.agg cs)) w) : if Region.wanted o (yielded ops a.tmps) = true then Oper.wp P o a w K Q else E := by
  have hw : Region.wanted o (yielded ops a.tmps) = true := by simp [Region.wanted, hgd]
  rw [if_pos hw]
  exact wp_load_row ty x ho g hx t cs fr d hg hu hd hi h
theorem step_store_row {P : Program} {ops : Array Oper} {o : Oper} {a : Act} {w : World} {K : Act → World → Prop} {Q : Exit → Act → World → Prop} {E : Prop} (hgd : o.guard = none) (ty : TypeId) (x y : Operand) (ho : o.op = .store ty x y)
    (g : Nat) (cells : Array Value) (hx : a.eval x = .pointer (some ⟨g, 0, none⟩)) (hy : a.eval y = .agg cells)
    (t : TypeId) (old : Array Value) (hg : w.heap[g]? = some (.cells old t (0, 0))) (hi : (P.info? ty).map (·.size) = some cells.size)
    (hold : old.size = cells.size) (h1 : cells.all (·.oneCell') = true)
    (h : K (a.put o.dst undef) (w.setRow g cells)) : if Region.wanted o (yielded ops a.tmps) = true then Oper.wp P o a w K Q else E := by
  have hw : Region.wanted o (yielded ops a.tmps) = true := by simp [Region.wanted, hgd]
  rw [if_pos hw]
  exact wp_store_row ty x y ho g cells hx hy t old hg hi hold h1 h
theorem step_assign {P : Program} {ops : Array Oper} {o : Oper} {a : Act} {w : World} {K : Act → World → Prop} {Q : Exit → Act → World → Prop} {E : Prop} (hgd : o.guard = none) (x : Operand) (ho : o.op = .assign x)
    (h : K (a.put o.dst (a.eval x)) w) : if Region.wanted o (yielded ops a.tmps) = true then Oper.wp P o a w K Q else E := by
  have hw : Region.wanted o (yielded ops a.tmps) = true := by simp [Region.wanted, hgd]
  rw [if_pos hw]
  unfold Oper.wp execOp
  simp only [ho, Sem.run_pure]
  exact h
theorem below_drew1 {B : Nat} {a w : World} (h : Below B a w) : Below B a { w with drawn := w.drawn + 1 } := ⟨h.os, h.tape, h.output, h.size, h.block⟩
set_option maxHeartbeats 2000000 in
theorem permsOf_any (A : Option Addr) (n c : Nat) (B : Option Addr) (m d : Nat) (xs ys : List Int) (h1 h2 : Nat) (w : World) (hx : Rd w h1 A n (V xs)) (hy : Rd w h2 B m (V ys)) (hn : n ≤ 1048576) (hm : m ≤ 1048576) (hh1 : h1 ≤ w.heap.size) (hh2 : h2 ≤ w.heap.size) :
    Calls Try.prog 52 #[.slice A n c, .slice B m d] w (PermsPost xs ys w) := by
  have lx : xs.length = n := by simpa [V] using hx.1
  have ly : ys.length = m := by simpa [V] using hy.1
  have LX := Lib.hid lx; have LY := Lib.hid ly; clear lx ly
  have HX := Lib.hid hx; have HY := Lib.hid hy; clear hx hy
  have N0 := Lib.hid ((Arr.new w (V zeros) 60 rfl).alloc (.cells (V zeros).toArray 60))
  have N1 := Lib.hid (Arr.new (w.alloc (.cells (V zeros).toArray 60)) (V zeros) 60 (g := w.heap.size + 1) (by simp))
  have B0 := Lib.hid (((Below.refl w.heap.size w).alloc (Nat.le_refl _) (.cells (V zeros).toArray 60)).alloc (by simp) (.cells (V zeros).toArray 60))
  go_enter Try.func52, Try.ntmps52
  go_wp2_with fail
  refine (permOf_any A n c xs _ _ (HX.out.keep B0.out hh1) hn).mono ?_
  rintro e w1 ⟨rfl, b1⟩
  have hs1 : w.heap.size + 2 ≤ w1.heap.size := by have := b1.size; simpa using this
  have P0 := Lib.hid (N0.out.keep b1 (by simp; omega)); have P1 := Lib.hid (N1.out.keep b1 (by simp))
  have B1 := Lib.hid (B0.out.trans (b1.mono B0.out.size))
  clear b1 N0 N1 B0
  have Q1 := Lib.hid ((Arr.new w1 (V zeros) 60 rfl).row (cs' := V (pv xs)))
  go_wp2_with (refine wpList_store_row rfl 60 _ _ rfl w1.heap.size (V (pv xs)).toArray rfl rfl 60 (V zeros).toArray (Arr.new w1 (V zeros) _ rfl) (size_V (pv_len _)) (by simp [V_len, pv_len, zeros]) (one_V _) ?_)
  refine (permOf_any B m d ys _ _ (HY.out.keep (below_setRow (B1.out.alloc B1.out.size _) (by omega) _) hh2) hm).mono ?_
  rintro e w2 ⟨rfl, b2⟩
  have hs2 : w1.heap.size + 1 ≤ w2.heap.size := by have := b2.size; simpa using this
  have R0 := Lib.hid (((P0.out.alloc _).rowOther (by omega)).keep b2 (by simp; omega))
  have R1 := Lib.hid (((P1.out.alloc _).rowOther (by omega)).keep b2 (by simp; omega))
  have R2 := Lib.hid ((Arr.new w1 (V zeros) _ rfl).row.keep b2 (by simp))
  have B2 := Lib.hid ((below_setRow (B1.out.alloc B1.out.size _) (by omega) _).trans (b2.mono (by simp; omega)))
  clear b2 P0 P1 Q1 B1
  by_cases hall : okB xs = true ∧ okB ys = true ∧ n = m
  · obtain ⟨ox, oy, rfl⟩ := hall
    have HF : Hid (okBB xs ys = true) := Lib.hid (by simp [okBB, ox, oy, LX.out, LY.out])
    have px : pv xs = ext xs := by simp [pv, ox]
    have py : pv ys = ext ys := by simp [pv, oy]
    rw [ox, oy]
    rw [px] at R2 ⊢; rw [py]
    clear ox oy px py
    go_wp2_with (refine wpList_store_row rfl 60 _ _ rfl w2.heap.size (V (ext ys)).toArray rfl rfl 60 (V zeros).toArray (Arr.new w2 (V zeros) _ rfl) (size_V (ext_len _)) (by simp [V_len, ext_len, zeros]) (one_V _) ?_)
    generalize hw3 : (w2.alloc (.cells #[.int .i64 0, .int .i64 0, .int .i64 0, .int .i64 0, .int .i64 0, .int .i64 0, .int .i64 0, .int .i64 0, .int .i64 0, .int .i64 0, .int .i64 0, .int .i64 0, .int .i64 0, .int .i64 0, .int .i64 0, .int .i64 0, .int .i64 0, .int .i64 0, .int .i64 0, .int .i64 0, .int .i64 0, .int .i64 0, .int .i64 0, .int .i64 0] 60)).setRow w2.heap.size (V (ext ys)).toArray = w3
    have S0 : Arr w3 w.heap.size (V zeros) 60 := by rw [← hw3]; exact (R0.out.alloc _).rowOther (by omega)
    have S1 : Arr w3 (w.heap.size + 1) (V zeros) 60 := by rw [← hw3]; exact (R1.out.alloc _).rowOther (by omega)
    have S2 : Arr w3 w1.heap.size (V (ext xs)) 60 := by rw [← hw3]; exact (R2.out.alloc _).rowOther (by omega)
    have S3 : Arr w3 w2.heap.size (V (ext ys)) 60 := by rw [← hw3]; exact (Arr.new w2 (V zeros) _ rfl).row
    have B3 : Hid (Below w.heap.size w w3) := Lib.hid (by rw [← hw3]; exact below_setRow (B2.out.alloc B2.out.size _) (by omega) _)
    clear hw3 R0 R1 R2 B2
    clear HX HY LX LY
    refine wp_region_any (by kernel_rfl) ?_
    generalize hwd : ({ w3 with drawn := w3.drawn + 1 } : World) = wd
    replace S0 : Arr wd w.heap.size (V zeros) 60 := by rw [← hwd]; exact S0
    replace S1 : Arr wd (w.heap.size + 1) (V zeros) 60 := by rw [← hwd]; exact S1
    replace S2 : Arr wd w1.heap.size (V (ext xs)) 60 := by rw [← hwd]; exact S2
    replace S3 : Arr wd w2.heap.size (V (ext ys)) 60 := by rw [← hwd]; exact S3
    replace B3 : Hid (Below w.heap.size w wd) := Lib.hid (by rw [← hwd]; exact below_drew1 B3.out)
    clear hwd w3
    refine wpAny_ready (rs := [0, 1]) (by kernel_rfl) (by simp) (AllReady.cons rfl (fun K hK => ?_) (AllReady.cons rfl (fun K hK => ?_) AllReady.nil))
    · refine step_load_row rfl 60 (.tmp 7) rfl w1.heap.size rfl 60 (V (ext xs)).toArray (0, 0) _ S2 Try.underlying60 rfl (size_V (ext_len _)) ?_; refine hK _ _ ?_; clear hK K
      refine wpAny_ready (rs := [1, 2]) (by kernel_rfl) (by simp) (AllReady.cons rfl (fun K hK => ?_) (AllReady.cons rfl (fun K hK => ?_) AllReady.nil))
      · refine step_load_row rfl 60 (.tmp 9) rfl w2.heap.size rfl 60 (V (ext ys)).toArray (0, 0) _ S3 Try.underlying60 rfl (size_V (ext_len _)) ?_; refine hK _ _ ?_; clear hK K
        refine wpAny_ready (rs := [2]) (by kernel_rfl) (by simp) (AllReady.cons rfl (fun K hK => ?_) AllReady.nil)
        refine step_store_row rfl 60 (.tmp 4) (.tmp 36) rfl w.heap.size (V (ext xs)).toArray rfl rfl 60 (V zeros).toArray S0 (size_V (ext_len _)) (by simp [V_len, zeros, ext_len]) (one_V _) ?_; refine hK _ _ ?_; clear hK K
        refine wpAny_ready (rs := [3]) (by kernel_rfl) (by simp) (AllReady.cons rfl (fun K hK => ?_) AllReady.nil)
        refine step_store_row rfl 60 (.tmp 5) (.tmp 37) rfl (w.heap.size + 1) (V (ext ys)).toArray rfl rfl 60 (V zeros).toArray (S1.rowOther (by omega)) (size_V (ext_len _)) (by simp [V_len, zeros, ext_len]) (one_V _) ?_; refine hK _ _ ?_; clear hK K
        refine wpAny_ready (rs := [4]) (by kernel_rfl) (by simp) (AllReady.cons rfl (fun K hK => ?_) AllReady.nil)
        refine step_assign rfl _ rfl ?_; refine hK _ _ ?_; clear hK K
        refine wpAny_done (by kernel_rfl) ?_ _
        go_wp2
        exact bodyPost_ret (v := .tuple #[.agg (V (ext xs)).toArray, .agg (V (ext ys)).toArray, .bool true]) (results_cell2_tmp rfl _ _ w.heap.size (w.heap.size + 1) 60 (V (ext xs)).toArray (V (ext ys)).toArray (0, 0) _ _ rfl rfl rfl (S0.row.rowOther (by omega)) (S1.rowOther (by omega)).row Try.underlying60 rfl (size_V (ext_len _)) (size_V (ext_len _))) rfl (posts_yes HF.out (below_setRow (below_setRow B3.out (Nat.le_refl _) _) (by omega) _))
      · refine step_store_row rfl 60 (.tmp 4) (.tmp 36) rfl w.heap.size (V (ext xs)).toArray rfl rfl 60 (V zeros).toArray S0 (size_V (ext_len _)) (by simp [V_len, zeros, ext_len]) (one_V _) ?_; refine hK _ _ ?_; clear hK K
        refine wpAny_ready (rs := [1]) (by kernel_rfl) (by simp) (AllReady.cons rfl (fun K hK => ?_) AllReady.nil)
        refine step_load_row rfl 60 (.tmp 9) rfl w2.heap.size rfl 60 (V (ext ys)).toArray (0, 0) _ (S3.rowOther (by omega)) Try.underlying60 rfl (size_V (ext_len _)) ?_; refine hK _ _ ?_; clear hK K
        refine wpAny_ready (rs := [3]) (by kernel_rfl) (by simp) (AllReady.cons rfl (fun K hK => ?_) AllReady.nil)
        refine step_store_row rfl 60 (.tmp 5) (.tmp 37) rfl (w.heap.size + 1) (V (ext ys)).toArray rfl rfl 60 (V zeros).toArray (S1.rowOther (by omega)) (size_V (ext_len _)) (by simp [V_len, zeros, ext_len]) (one_V _) ?_; refine hK _ _ ?_; clear hK K
        refine wpAny_ready (rs := [4]) (by kernel_rfl) (by simp) (AllReady.cons rfl (fun K hK => ?_) AllReady.nil)
        refine step_assign rfl _ rfl ?_; refine hK _ _ ?_; clear hK K
        refine wpAny_done (by kernel_rfl) ?_ _
        go_wp2
        exact bodyPost_ret (v := .tuple #[.agg (V (ext xs)).toArray, .agg (V (ext ys)).toArray, .bool true]) (results_cell2_tmp rfl _ _ w.heap.size (w.heap.size + 1) 60 (V (ext xs)).toArray (V (ext ys)).toArray (0, 0) _ _ rfl rfl rfl (S0.row.rowOther (by omega)) (S1.rowOther (by omega)).row Try.underlying60 rfl (size_V (ext_len _)) (size_V (ext_len _))) rfl (posts_yes HF.out (below_setRow (below_setRow B3.out (Nat.le_refl _) _) (by omega) _))
    · refine step_load_row rfl 60 (.tmp 9) rfl w2.heap.size rfl 60 (V (ext ys)).toArray (0, 0) _ S3 Try.underlying60 rfl (size_V (ext_len _)) ?_; refine hK _ _ ?_; clear hK K
      refine wpAny_ready (rs := [0]) (by kernel_rfl) (by simp) (AllReady.cons rfl (fun K hK => ?_) AllReady.nil)
      refine step_load_row rfl 60 (.tmp 7) rfl w1.heap.size rfl 60 (V (ext xs)).toArray (0, 0) _ S2 Try.underlying60 rfl (size_V (ext_len _)) ?_; refine hK _ _ ?_; clear hK K
      refine wpAny_ready (rs := [2]) (by kernel_rfl) (by simp) (AllReady.cons rfl (fun K hK => ?_) AllReady.nil)
      refine step_store_row rfl 60 (.tmp 4) (.tmp 36) rfl w.heap.size (V (ext xs)).toArray rfl rfl 60 (V zeros).toArray S0 (size_V (ext_len _)) (by simp [V_len, zeros, ext_len]) (one_V _) ?_; refine hK _ _ ?_; clear hK K
      refine wpAny_ready (rs := [3]) (by kernel_rfl) (by simp) (AllReady.cons rfl (fun K hK => ?_) AllReady.nil)
      refine step_store_row rfl 60 (.tmp 5) (.tmp 37) rfl (w.heap.size + 1) (V (ext ys)).toArray rfl rfl 60 (V zeros).toArray (S1.rowOther (by omega)) (size_V (ext_len _)) (by simp [V_len, zeros, ext_len]) (one_V _) ?_; refine hK _ _ ?_; clear hK K
      refine wpAny_ready (rs := [4]) (by kernel_rfl) (by simp) (AllReady.cons rfl (fun K hK => ?_) AllReady.nil)
      refine step_assign rfl _ rfl ?_; refine hK _ _ ?_; clear hK K
      refine wpAny_done (by kernel_rfl) ?_ _
      go_wp2
      exact bodyPost_ret (v := .tuple #[.agg (V (ext xs)).toArray, .agg (V (ext ys)).toArray, .bool true]) (results_cell2_tmp rfl _ _ w.heap.size (w.heap.size + 1) 60 (V (ext xs)).toArray (V (ext ys)).toArray (0, 0) _ _ rfl rfl rfl (S0.row.rowOther (by omega)) (S1.rowOther (by omega)).row Try.underlying60 rfl (size_V (ext_len _)) (size_V (ext_len _))) rfl (posts_yes HF.out (below_setRow (below_setRow B3.out (Nat.le_refl _) _) (by omega) _))
  · by_cases ox : okB xs = true
    · by_cases oy : okB ys = true
      · have hne : n ≠ m := fun e => hall ⟨ox, oy, e⟩
        have HF : Hid (okBB xs ys = false) := Lib.hid (by simp [okBB, ox, oy, LX.out, LY.out, hne])
        have hb : ((n : Int) != (m : Int)) = true := by simp; omega
        rw [ox, oy]
        clear ox oy hall
        go_wp2_with (first | (refine wpList_store_row rfl 60 (.tmp 9) (.tmp 19) rfl w2.heap.size (V (pv ys)).toArray rfl rfl 60 (V zeros).toArray (Arr.new w2 (V zeros) _ rfl) (size_V (pv_len _)) (by simp [V_len, pv_len, zeros]) (one_V _) ?_; generalize hw3 : (w2.alloc (.cells #[.int .i64 0, .int .i64 0, .int .i64 0, .int .i64 0, .int .i64 0, .int .i64 0, .int .i64 0, .int .i64 0, .int .i64 0, .int .i64 0, .int .i64 0, .int .i64 0, .int .i64 0, .int .i64 0, .int .i64 0, .int .i64 0, .int .i64 0, .int .i64 0, .int .i64 0, .int .i64 0, .int .i64 0, .int .i64 0, .int .i64 0, .int .i64 0] 60)).setRow w2.heap.size (V (pv ys)).toArray = w3; have S0 : Hid (Arr w3 w.heap.size (V zeros) 60) := Lib.hid (by rw [← hw3]; exact (R0.out.alloc _).rowOther (by omega)); have S1 : Hid (Arr w3 (w.heap.size + 1) (V zeros) 60) := Lib.hid (by rw [← hw3]; exact (R1.out.alloc _).rowOther (by omega)); have B3 : Hid (Below w.heap.size w w3) := Lib.hid (by rw [← hw3]; exact below_setRow (B2.out.alloc B2.out.size _) (by omega) _); clear hw3 R0 R1 R2 B2) | (refine wpList_store_row rfl 60 (.tmp 4) (.tmp 34) rfl w.heap.size (V zeros).toArray rfl rfl 60 (V zeros).toArray S0.out (size_V zeros_len) rfl (one_V _) ?_) | (refine wpList_store_row rfl 60 (.tmp 5) (.tmp 35) rfl (w.heap.size + 1) (V zeros).toArray rfl rfl 60 (V zeros).toArray (S1.out.rowOther (by omega)) (size_V zeros_len) rfl (one_V _) ?_))
        exact bodyPost_ret (v := .tuple #[.agg (V zeros).toArray, .agg (V zeros).toArray, .bool false]) (results_cell2_tmp rfl _ _ w.heap.size (w.heap.size + 1) 60 (V zeros).toArray (V zeros).toArray (0, 0) _ _ rfl rfl rfl (S0.out.row.rowOther (by omega)) (S1.out.rowOther (by omega)).row Try.underlying60 rfl (size_V zeros_len) (size_V zeros_len)) rfl (posts_no HF.out (below_setRow (below_setRow B3.out (Nat.le_refl _) _) (by omega) _))
      · have oy' : okB ys = false := by simpa using oy
        have HF : Hid (okBB xs ys = false) := Lib.hid (by simp [okBB, oy'])
        rw [ox, oy']
        clear ox oy oy' hall
        go_wp2_with (first | (refine wpList_store_row rfl 60 (.tmp 9) (.tmp 19) rfl w2.heap.size (V (pv ys)).toArray rfl rfl 60 (V zeros).toArray (Arr.new w2 (V zeros) _ rfl) (size_V (pv_len _)) (by simp [V_len, pv_len, zeros]) (one_V _) ?_; generalize hw3 : (w2.alloc (.cells #[.int .i64 0, .int .i64 0, .int .i64 0, .int .i64 0, .int .i64 0, .int .i64 0, .int .i64 0, .int .i64 0, .int .i64 0, .int .i64 0, .int .i64 0, .int .i64 0, .int .i64 0, .int .i64 0, .int .i64 0, .int .i64 0, .int .i64 0, .int .i64 0, .int .i64 0, .int .i64 0, .int .i64 0, .int .i64 0, .int .i64 0, .int .i64 0] 60)).setRow w2.heap.size (V (pv ys)).toArray = w3; have S0 : Hid (Arr w3 w.heap.size (V zeros) 60) := Lib.hid (by rw [← hw3]; exact (R0.out.alloc _).rowOther (by omega)); have S1 : Hid (Arr w3 (w.heap.size + 1) (V zeros) 60) := Lib.hid (by rw [← hw3]; exact (R1.out.alloc _).rowOther (by omega)); have B3 : Hid (Below w.heap.size w w3) := Lib.hid (by rw [← hw3]; exact below_setRow (B2.out.alloc B2.out.size _) (by omega) _); clear hw3 R0 R1 R2 B2) | (refine wpList_store_row rfl 60 (.tmp 4) (.tmp 34) rfl w.heap.size (V zeros).toArray rfl rfl 60 (V zeros).toArray S0.out (size_V zeros_len) rfl (one_V _) ?_) | (refine wpList_store_row rfl 60 (.tmp 5) (.tmp 35) rfl (w.heap.size + 1) (V zeros).toArray rfl rfl 60 (V zeros).toArray (S1.out.rowOther (by omega)) (size_V zeros_len) rfl (one_V _) ?_))
        exact bodyPost_ret (v := .tuple #[.agg (V zeros).toArray, .agg (V zeros).toArray, .bool false]) (results_cell2_tmp rfl _ _ w.heap.size (w.heap.size + 1) 60 (V zeros).toArray (V zeros).toArray (0, 0) _ _ rfl rfl rfl (S0.out.row.rowOther (by omega)) (S1.out.rowOther (by omega)).row Try.underlying60 rfl (size_V zeros_len) (size_V zeros_len)) rfl (posts_no HF.out (below_setRow (below_setRow B3.out (Nat.le_refl _) _) (by omega) _))
    · have ox' : okB xs = false := by simpa using ox
      have HF : Hid (okBB xs ys = false) := Lib.hid (by simp [okBB, ox'])
      rw [ox']
      clear ox ox' hall
      generalize okB ys = q
      go_wp2_with (first | (refine wpList_store_row rfl 60 (.tmp 9) (.tmp 19) rfl w2.heap.size (V (pv ys)).toArray rfl rfl 60 (V zeros).toArray (Arr.new w2 (V zeros) _ rfl) (size_V (pv_len _)) (by simp [V_len, pv_len, zeros]) (one_V _) ?_; generalize hw3 : (w2.alloc (.cells #[.int .i64 0, .int .i64 0, .int .i64 0, .int .i64 0, .int .i64 0, .int .i64 0, .int .i64 0, .int .i64 0, .int .i64 0, .int .i64 0, .int .i64 0, .int .i64 0, .int .i64 0, .int .i64 0, .int .i64 0, .int .i64 0, .int .i64 0, .int .i64 0, .int .i64 0, .int .i64 0, .int .i64 0, .int .i64 0, .int .i64 0, .int .i64 0] 60)).setRow w2.heap.size (V (pv ys)).toArray = w3; have S0 : Hid (Arr w3 w.heap.size (V zeros) 60) := Lib.hid (by rw [← hw3]; exact (R0.out.alloc _).rowOther (by omega)); have S1 : Hid (Arr w3 (w.heap.size + 1) (V zeros) 60) := Lib.hid (by rw [← hw3]; exact (R1.out.alloc _).rowOther (by omega)); have B3 : Hid (Below w.heap.size w w3) := Lib.hid (by rw [← hw3]; exact below_setRow (B2.out.alloc B2.out.size _) (by omega) _); clear hw3 R0 R1 R2 B2) | (refine wpList_store_row rfl 60 (.tmp 4) (.tmp 34) rfl w.heap.size (V zeros).toArray rfl rfl 60 (V zeros).toArray S0.out (size_V zeros_len) rfl (one_V _) ?_) | (refine wpList_store_row rfl 60 (.tmp 5) (.tmp 35) rfl (w.heap.size + 1) (V zeros).toArray rfl rfl 60 (V zeros).toArray (S1.out.rowOther (by omega)) (size_V zeros_len) rfl (one_V _) ?_))
      exact bodyPost_ret (v := .tuple #[.agg (V zeros).toArray, .agg (V zeros).toArray, .bool false]) (results_cell2_tmp rfl _ _ w.heap.size (w.heap.size + 1) 60 (V zeros).toArray (V zeros).toArray (0, 0) _ _ rfl rfl rfl (S0.out.row.rowOther (by omega)) (S1.out.rowOther (by omega)).row Try.underlying60 rfl (size_V zeros_len) (size_V zeros_len)) rfl (posts_no HF.out (below_setRow (below_setRow B3.out (Nat.le_refl _) _) (by omega) _))
end Go.Proofs.Ytngglhbcpeigcaa.permOf

/-
  What the functions on permutations answer, as functions on lists.
-/
namespace Go.Proofs.Ytngglhbcpeigcaa.pm
open Go.Proofs.Ytngglhbcpeigcaa.arr Go.Proofs.Ytngglhbcpeigcaa.inv Go.Proofs.Ytngglhbcpeigcaa.permOf
set_option linter.unusedVariables false
set_option maxRecDepth 100000

theorem Ok.sq {xs : List Int} (h : Ok xs) : Sq (ext xs) := by
  refine ⟨ext_len xs, fun i hi => ?_, fun i hi => ?_⟩
  · rw [ext_at hi]; split
    · exact h.lo i (by assumption)
    · omega
  · rw [ext_at hi]; split
    · have := h.hi i (by assumption); have := h.len; omega
    · omega
theorem idl_sq : Sq idl := by
  refine ⟨tab_len _, fun i hi => ?_, fun i hi => ?_⟩ <;> (unfold idl; rw [tab_get _ hi]; omega)
theorem getD_set {l : List Int} {i k : Nat} {z : Int} : (l.set k z).getD i 0 = if k = i ∧ i < l.length then z else l.getD i 0 := by
  simp only [List.getD, List.getElem?_set]
  by_cases e : k = i
  · subst e
    by_cases h : k < l.length
    · simp [h]
    · simp [h]
  · simp [e]
theorem invTo_range (n : Nat) (qs : List Int) (k : Nat) (hk : k ≤ 24) (i : Nat) : 0 ≤ (invTo n qs k).getD i 0 ∧ (invTo n qs k).getD i 0 < 24 := by
  induction k with
  | zero =>
    simp only [invTo, List.getD, List.getElem?_replicate]
    split <;> simp
  | succ k ih =>
    have := ih (by omega)
    rw [invTo, getD_set]
    split
    · omega
    · exact this
theorem inv_sq (qs : List Int) : Sq (invTo 24 qs 24) :=
  ⟨invTo_len _ _ _, fun i _ => (invTo_range 24 qs 24 (Nat.le_refl _) i).1, fun i _ => (invTo_range 24 qs 24 (Nat.le_refl _) i).2⟩
theorem then_sq {ps qs : List Int} (hp : Sq ps) (hq : Sq qs) : Sq (thenL ps qs) := by
  refine ⟨tab_len _, fun i hi => ?_, fun i hi => ?_⟩
  · unfold thenL; rw [tab_get _ hi]
    exact hq.lo _ (by have := hp.lo i hi; have := hp.hi i hi; omega)
  · unfold thenL; rw [tab_get _ hi]
    exact hq.hi _ (by have := hp.lo i hi; have := hp.hi i hi; omega)

theorem list_eq {l m : List Int} (n : Nat) (h1 : l.length = n) (h2 : m.length = n) (h : ∀ i, i < n → l.getD i 0 = m.getD i 0) : l = m := by
  refine List.ext_getElem? fun i => ?_
  by_cases hi : i < n
  · have := h i hi
    rw [List.getD, List.getD, List.getElem?_eq_getElem (by omega), List.getElem?_eq_getElem (by omega)] at this
    rw [List.getElem?_eq_getElem (by omega), List.getElem?_eq_getElem (by omega)]
    simpa using this
  · rw [List.getElem?_eq_none (by omega), List.getElem?_eq_none (by omega)]
theorem getD_take {l : List Int} {n i : Nat} (h : i < n) : (l.take n).getD i 0 = l.getD i 0 := by
  simp [List.getD, h]

def invF (xs : List Int) : List Int := if okB xs then invTo xs.length xs xs.length else []
theorem invF_len (xs : List Int) : (invF xs).length ≤ 1048576 := by
  unfold invF; split
  · rename_i h; rw [invTo_len]; have := (Ok.of xs h).len; omega
  · simp
theorem take_inv {xs : List Int} (h : Ok xs) : (invTo 24 (ext xs) 24).take xs.length = invTo xs.length xs xs.length := by
  have hl := h.len
  have A : ∀ k, k ≤ xs.length → (invTo 24 (ext xs) k).take xs.length = invTo xs.length xs k := by
    intro k
    induction k with
    | zero => intro _; rw [invTo, invTo, List.take_replicate, Nat.min_eq_left hl]
    | succ k ih =>
      intro hk
      have e : (ext xs).getD k 0 = xs.getD k 0 := by rw [ext_at (by omega), if_pos (by omega)]
      rw [invTo, invTo, e, List.take_set, ih (by omega)]
  have B : ∀ k, xs.length ≤ k → k ≤ 24 → (invTo 24 (ext xs) k).take xs.length = invTo xs.length xs xs.length := by
    intro k hk
    induction k with
    | zero =>
      intro _
      have e : xs.length = 0 := by omega
      rw [A 0 (Nat.zero_le _), e]
    | succ k ih =>
      intro h24
      by_cases e : xs.length = k + 1
      · rw [← e]; exact A _ (Nat.le_refl _)
      · have hk' : xs.length ≤ k := by omega
        have ee : (ext xs).getD k 0 = (k : Int) := by rw [ext_at (by omega), if_neg (by omega)]
        rw [invTo, ee, Int.toNat_natCast, List.take_set_of_le hk', ih hk' (by omega)]
  exact B 24 hl (Nat.le_refl _)

def thn (xs ys : List Int) : List Int := xs.map fun x => ys.getD x.toNat 0
def thenF (xs ys : List Int) : List Int := if okBB xs ys then thn xs ys else []
theorem okBB_iff {xs ys : List Int} : okBB xs ys = true ↔ okB xs = true ∧ okB ys = true ∧ xs.length = ys.length := by
  simp [okBB, and_assoc]
theorem thenF_len (xs ys : List Int) : (thenF xs ys).length ≤ 1048576 := by
  unfold thenF; split
  · rename_i h; have := (Ok.of xs (okBB_iff.1 h).1).len; simp [thn]; omega
  · simp
theorem take_then {xs ys : List Int} (h : Ok xs) (h' : Ok ys) (e : xs.length = ys.length) : (thenL (ext xs) (ext ys)).take xs.length = thn xs ys := by
  have hl := h.len
  refine list_eq xs.length (by simp [thenL, tab_len]; omega) (by simp [thn]) fun i hi => ?_
  rw [getD_take hi]
  unfold thenL
  rw [tab_get _ (by omega), ext_at (xs := xs) (i := i) (by omega), if_pos hi]
  have h1 := h.lo i hi; have h2 := h.hi i hi
  rw [ext_at (by omega), if_pos (by omega)]
  simp [thn, List.getD, List.getElem?_eq_getElem hi]

def idF (a : Int) : List Int := if 0 ≤ a ∧ a ≤ 24 then (List.range a.toNat).map (fun (i : Nat) => (i : Int)) else []
theorem idF_len (a : Int) : (idF a).length ≤ 1048576 := by
  unfold idF; split
  · simp; omega
  · simp
theorem take_id {n : Nat} (h : n ≤ 24) : idl.take n = (List.range n).map (fun (i : Nat) => (i : Int)) := by
  refine list_eq n (by simp [idl, tab_len]; omega) (by simp) fun i hi => ?_
  rw [getD_take hi]
  unfold idl
  rw [tab_get _ (by omega)]
  simp [List.getD, hi]
end Go.Proofs.Ytngglhbcpeigcaa.pm
