/-
  Contracts of the methods of impl.perm: list, inverse, then.
-/
import Derived.Test.YtkkklpchkkdhfaaPermOf
import Derived.Laws.CopyOwn
namespace Go.Proofs.Ytkkklpchkkdhfaa.inv
open Go.ChangeShapes Go.WideShapes Go.ChangeAt Go.RowKit
open Go.Proofs.Ytkkklpchkkdhfaa.mem Go.Proofs.Ytkkklpchkkdhfaa.ints Go.Proofs.Ytkkklpchkkdhfaa.arr Go.Proofs.Ytkkklpchkkdhfaa.pm Go.Proofs.Ytkkklpchkkdhfaa.permOk Go.Proofs.Ytkkklpchkkdhfaa.permOf
set_option linter.unusedVariables false
set_option maxRecDepth 100000

/-- All numbers are from 0 up to 24. -/
structure Sq (qs : List Int) : Prop where
  len : qs.length = 24
  lo : ∀ i, i < 24 → 0 ≤ qs.getD i 0
  hi : ∀ i, i < 24 → qs.getD i 0 < 24
theorem Sq.at_ {qs : List Int} (h : Sq qs) {i : Nat} (hi : i < 24) : ∃ z : Nat, z < 24 ∧ qs[i]? = some (z : Int) ∧ qs.getD i 0 = (z : Int) := by
  have h1 := h.lo i hi; have h2 := h.hi i hi
  have e : qs[i]? = some (qs.getD i 0) := by rw [List.getD, List.getElem?_eq_getElem (by rw [h.len]; exact hi)]; rfl
  exact ⟨(qs.getD i 0).toNat, by omega, by rw [e]; congr 1; omega, by omega⟩

theorem index_row (l : List Int) (k : Nat) (z : Int) (hk : k < 24) (hz : l[k]? = some z) (w : World) :
    (Instr.index 62 (.agg (V l).toArray) (.int .i64 (k : Int))).run Try.prog w = .ok (.int .i64 z) w := by
  have hs : (sizeOf 3).run Try.prog w = .ok 1 w := by kernel_rfl
  have h2 : (V l)[k]? = some (.int .i64 z) := V_get hz
  simp [Instr.index, asIntOf, run_underlying Try.underlying62, hk, hs, part, h2]

/-- Where k up to n goes under the inverse of qs, as far as the first k elements say. -/
def invTo (n : Nat) (qs : List Int) : Nat → List Int
  | 0 => List.replicate n 0
  | k + 1 => (invTo n qs k).set (qs.getD k 0).toNat (k : Int)
theorem invTo_len (n : Nat) (qs : List Int) (k : Nat) : (invTo n qs k).length = n := by
  induction k with
  | zero => simp [invTo]
  | succ k ih => simp [invTo, ih]
def InvRel (qs : List Int) (w wr : World) (k : Nat) : Prop :=
  Arr wr (w.heap.size + 1) (V zeros) 62 ∧ Arr wr (w.heap.size + 2) (V (invTo 24 qs k)) 62 ∧ Below w.heap.size w wr

/-- First ps, then qs. -/
def thenL (ps qs : List Int) : List Int := tab fun i => qs.getD (ps.getD i 0).toNat 0
def ThenRel (ps qs : List Int) (w wr : World) (k : Nat) : Prop :=
  Arr wr (w.heap.size + 1) (V qs) 62 ∧ Arr wr (w.heap.size + 2) (V zeros) 62 ∧ Arr wr (w.heap.size + 3) (V (tab fun i => if i < k then qs.getD (ps.getD i 0).toNat 0 else 0)) 62 ∧ Below w.heap.size w wr

set_option maxHeartbeats 1000000 in
theorem then_any (ps qs : List Int) (w : World) (hp : Sq ps) (hq : Sq qs) :
    Calls Try.prog 86 #[.agg (V ps).toArray, .agg (V qs).toArray] w fun e w' => e = .returned (.agg (V (thenL ps qs)).toArray) ∧ Below w.heap.size w w' := by
  have HP := Lib.hid hp; have HQ := Lib.hid hq; clear hp hq
  go_enter Try.func86, Try.ntmps86
  go_wp2_with (refine wpList_load_row rfl 62 _ rfl w.heap.size rfl 62 (V ps).toArray (0, 0) _ ((((Arr.new w (V ps) 62 rfl).alloc _).alloc _).alloc _) Try.underlying62 rfl (size_V HP.out.len) ?_)
  go_loopw [9] (fun i wr => ∃ k : Nat, k ≤ 24 ∧ i = .int .i64 k ∧ ThenRel ps qs w wr k) (fun i _ => 24 - (intOf i).toNat)
  case atStart =>
    exact ⟨0, Nat.zero_le _, rfl, ((Arr.new _ (V qs) _ (by simp)).alloc _).alloc _, (Arr.new _ (V zeros) _ (by simp)).alloc _, Arr.new _ (V zeros) _ (by simp), ((((Below.refl _ _).alloc (Nat.le_refl _) _).alloc (by simp) _).alloc (by simp; omega) _).alloc (by simp; omega) _⟩
  case round =>
    obtain ⟨k, hk, rfl, hr⟩ := hrel
    have HR := Lib.hid hr; clear hr
    by_cases hlt : k < 24
    · obtain ⟨z, hz, hqz, hqd⟩ := HP.out.at_ hlt
      have hvz := index_row ps k z hlt hqz
      have HD := Lib.hid hqd; clear hqz hqd
      have hcq : wr.cell? ⟨w.heap.size + 1, z, none⟩ = some (.int .i64 (qs.getD z 0)) := HR.out.1.cell (V_getD (by rw [HQ.out.len]; exact hz))
      have hc : wr.cell? ⟨w.heap.size + 3, k, none⟩ = some (.int .i64 ((tab fun i => if i < k then qs.getD (ps.getD i 0).toNat 0 else 0).getD k 0)) := HR.out.2.2.1.cell (V_getD (by rw [tab_len]; exact hlt))
      have hf := HR.out.2.2.1.frozen k
      go_wp2
      go_roundw
      case rel =>
        refine ⟨k + 1, by omega, by go_num, HR.out.1.other (by omega) _, HR.out.2.1.other (by omega) _, ?_, HR.out.2.2.2.setCell (by simp; omega) _⟩
        have h := HR.out.2.2.1.set_ k (.int .i64 (qs.getD z 0))
        rw [V_set] at h
        have e := tab_set (fun i => if i < k then qs.getD (ps.getD i 0).toNat 0 else 0) (fun i => if i < k + 1 then qs.getD (ps.getD i 0).toNat 0 else 0) (k := k) (fun j hj => by
          by_cases e : j = k
          · subst e; simp
          · simp only [if_neg e]; split <;> split <;> first | rfl | omega)
        simp only [Nat.lt_succ_self, if_true] at e
        rw [HD.out, Int.toNat_natCast] at e
        rw [e] at h
        exact h
      case measure => simp [intOf]; omega
    · obtain rfl : k = 24 := by omega
      have er : (tab fun i => if i < 24 then qs.getD (ps.getD i 0).toNat 0 else 0) = thenL ps qs := by
        unfold thenL tab
        refine List.map_congr_left fun i hi => ?_
        simp at hi
        simp [hi]
      have H1 := Lib.hid HR.out.2.1; have h2 := HR.out.2.2.1; have HB := Lib.hid HR.out.2.2.2; clear HR
      rw [er] at h2
      have H2 := Lib.hid h2; clear h2 er
      have HL : Hid ((thenL ps qs).length = 24) := Lib.hid (tab_len _)
      generalize hr : thenL ps qs = r at H2 HL
      have HRR := Lib.hid hr; clear hr
      go_wp2_with (first | (refine wpList_load_row rfl 62 (.tmp 5) rfl (w.heap.size + 3) rfl 62 (V r).toArray (0, 0) _ H2.out Try.underlying62 rfl (size_V HL.out) ?_) | (refine wpList_store_row rfl 62 (.tmp 4) (.tmp 19) rfl (w.heap.size + 2) (V r).toArray rfl rfl 62 (V zeros).toArray H1.out (size_V HL.out) (by simp [V_len, HL.out, zeros]) (one_V _) ?_))
      exact bodyPost_ret (v := .agg (V r).toArray) (results_cell_row rfl _ _ (w.heap.size + 2) 62 (V r).toArray (0, 0) _ rfl H1.out.row Try.underlying62 rfl (size_V HL.out)) rfl ⟨by rw [HRR.out], arr.below_setRow HB.out (by omega) _⟩

theorem slice_row (b n : Nat) (w : World) (hn : n ≤ 24) :
    (Instr.sliceAt 62 (.pointer (some ⟨b, 0, none⟩)) none (some (.int .i64 (n : Int))) none).run Try.prog w = .ok (.slice (some ⟨b, 0, none⟩) n 24) w := by
  have h := run_sliceAt_array_h (P := Try.prog) (t := 62) (w := w) (a := ⟨b, 0, none⟩) Try.underlying62 .i64 (n : Int) (by omega) (by show (n : Int) ≤ 24; omega)
  exact h.trans (by kernel_rfl)
end Go.Proofs.Ytkkklpchkkdhfaa.inv
