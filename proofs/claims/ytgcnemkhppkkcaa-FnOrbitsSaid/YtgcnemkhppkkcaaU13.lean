import Derived.Test.YtgcnemkhppkkcaaU04
import Derived.Test.YtgcnemkhppkkcaaU12
import Derived.Test.YtgcnemkhppkkcaaU10
import Derived.Test.YtgcnemkhppkkcaaU09
import Derived.Shelf.Abstract
import Derived.StillTailTactics
import Derived.Deep.CutRange
import Derived.Test.YtgcnemkhppkkcaaU11
import Derived.Test.YtgcnemkhppkkcaaU08
import Derived.OwnWalk
import Derived.Deep.MidRow
import Derived.Deep.RegionHeld3
namespace Go.Proofs.Ytgcnemkhppkkcaa.la
open Go.ChangeShapes Go.WideShapes Go.ChangeAt Go.RowKit
open mem ints arr pm permOk permOf inv fns sf gl mk lw
set_option linter.unusedVariables false
set_option maxRecDepth 100000
set_option maxHeartbeats 8000000 in
theorem lit1 (r u : List Int) (n : Nat) (w : World) (hs : Sf n r u) :
    Calls sqp.prog 129 #[.agg (V (gl (ext r) (ext u) n)).toArray] w fun e w' => e = .returned (.agg (V (gl (ext r) (ext (thn (Inv r) u)) n)).toArray) ∧ Below w.heap.size w w' := by
  have HS := Lib.hid hs
  have RS := Lib.hid hs.r.sq; have US := Lib.hid hs.u.sq
  have ER := Lib.hid (inv_ext hs.r); have EU := Lib.hid (inv_ext hs.u)
  clear hs
  go_enter sqp.func129, sqp.ntmps129
  go_wp2_with fail
  generalize hw1 : (w.alloc (.cells (V (gl (ext r) (ext u) n)).toArray 62)).alloc (.cells #[.int .i64 0, .int .i64 0, .int .i64 0, .int .i64 0, .int .i64 0, .int .i64 0, .int .i64 0, .int .i64 0, .int .i64 0, .int .i64 0, .int .i64 0, .int .i64 0, .int .i64 0, .int .i64 0, .int .i64 0, .int .i64 0, .int .i64 0, .int .i64 0, .int .i64 0, .int .i64 0, .int .i64 0, .int .i64 0, .int .i64 0, .int .i64 0, .int .i64 0, .int .i64 0, .int .i64 0, .int .i64 0, .int .i64 0, .int .i64 0, .int .i64 0, .int .i64 0, .int .i64 0, .int .i64 0, .int .i64 0, .int .i64 0, .int .i64 0, .int .i64 0, .int .i64 0, .int .i64 0, .int .i64 0, .int .i64 0, .int .i64 0, .int .i64 0, .int .i64 0, .int .i64 0, .int .i64 0, .int .i64 0, .int .i64 0] 62) = w1
  have A0 : Hid (Arr w1 w.heap.size (V (gl (ext r) (ext u) n)) 62) := Lib.hid (by rw [← hw1]; exact (Arr.new w _ _ rfl).alloc _)
  have A1 : Hid (Arr w1 (w.heap.size + 1) (V zero49) 62) := Lib.hid (by rw [← hw1]; exact Arr.new _ (V zero49) _ (by simp))
  have B1 : Hid (Below w.heap.size w w1) := Lib.hid (by rw [← hw1]; exact ((Below.refl _ _).alloc (Nat.le_refl _) _).alloc (by simp) _)
  have s1 : w1.heap.size = w.heap.size + 2 := by rw [← hw1]; simp
  clear hw1
  refine wp_region_held_drew (S := Hld w.heap.size w1.heap.size w1 [(w.heap.size, (V (gl (ext r) (ext u) n)))]) (by kernel_rfl) ((Hld.start1 A0.out).lower (by omega)) (fun hHeld => ?_)
  have b1 : Below w1.heap.size w1 w1.drew := ⟨rfl, rfl, rfl, Nat.le_refl _, fun _ _ => rfl⟩
  generalize w1.drew = w2 at *
  have s2 := b1.size
  replace A1 := Lib.hid (A1.out.keep b1 A1.out.lt)
  replace B1 := Lib.hid (B1.out.trans (b1.mono B1.out.size))
  clear b1 A0
  refine wpAnyH_take (i := 0) (v := .pointer (some ⟨w.heap.size, 0, none⟩)) rfl (by kernel_rfl) (by kernel_rfl) (by kernel_rfl) (fun _ _ _ h => h) (Or.inl ⟨by rfl, fun w hSw => by go_simp⟩) hHeld ?_
  refine wpAnyH_take (i := 2) (v := .pointer (some ⟨w.heap.size, 0, none⟩)) rfl (by kernel_rfl) (by kernel_rfl) (by kernel_rfl) (fun _ _ _ h => h) (Or.inl ⟨by rfl, fun w hSw => by go_simp⟩) hHeld ?_
  refine wpAnyH_take (i := 5) (v := .pointer (some ⟨w.heap.size, 24, none⟩)) rfl (by kernel_rfl) (by kernel_rfl) (by kernel_rfl) (fun _ _ _ h => h) (Or.inl ⟨by rfl, fun w hSw => by go_simp⟩) hHeld ?_
  refine wpAnyH_take (i := 8) (v := .pointer (some ⟨w.heap.size, 48, none⟩)) rfl (by kernel_rfl) (by kernel_rfl) (by kernel_rfl) (fun _ _ _ h => h) (Or.inl ⟨by rfl, fun w hSw => by go_simp⟩) hHeld ?_
  refine wpAnyH_take (i := 1) (v := .agg (V (ext r)).toArray) rfl (by kernel_rfl) (by kernel_rfl) (by kernel_rfl) (fun _ _ _ h => h) (yieldsIf_load_mid (by rfl) _ _ rfl (w.heap.size) 0 rfl (V (ext r)) _ (fun w h => rg_right (ext_len _) h.fst) sqp.underlying60 rfl (hi24 (ext_len _))) hHeld ?_
  refine wpAnyH_take (i := 3) (v := .agg (V (ext r)).toArray) rfl (by kernel_rfl) (by kernel_rfl) (by kernel_rfl) (fun _ _ _ h => h) (yieldsIf_load_mid (by rfl) _ _ rfl (w.heap.size) 0 rfl (V (ext r)) _ (fun w h => rg_right (ext_len _) h.fst) sqp.underlying60 rfl (hi24 (ext_len _))) hHeld ?_
  refine wpAnyH_take (i := 6) (v := .agg (V (ext u)).toArray) rfl (by kernel_rfl) (by kernel_rfl) (by kernel_rfl) (fun _ _ _ h => h) (yieldsIf_load_mid (by rfl) _ _ rfl (w.heap.size) 24 rfl (V (ext u)) _ (fun w h => rg_up (ext_len _) (ext_len _) h.fst) sqp.underlying60 rfl (hi24 (ext_len _))) hHeld ?_
  refine wpAnyH_take (i := 9) (v := .int .i64 n) rfl (by kernel_rfl) (by kernel_rfl) (by kernel_rfl) (fun _ _ _ h => h) (Or.inl ⟨by rfl, fun w hSw => by have := rg_count (ext_len _) (ext_len _) hSw.fst; go_simp⟩) hHeld ?_
  refine wpAnyH_ready (rs := [4]) (by kernel_rfl) (by simp) (AllReadyH.cons rfl (fun K hK => ?_) AllReadyH.nil)
  go_simp
  refine (inverse_any (ext r) _ RS.out).mono ?_
  rintro e w' ⟨rfl, b1⟩
  rw [ER.out]
  replace A1 := Lib.hid (A1.out.keep b1 A1.out.lt)
  replace B1 := Lib.hid (B1.out.trans (b1.mono B1.out.size))
  go_wp2_with fail
  have hHeld2 := hHeld.later b1 (by omega); clear b1 hHeld
  refine hK.out _ _ hHeld2 (fun hHeld => ?_)
  clear hK K hHeld2
  refine wpAnyH_ready (rs := [7]) (by kernel_rfl) (by simp) (AllReadyH.cons rfl (fun K hK => ?_) AllReadyH.nil)
  go_simp
  refine (inv.then_any (ext (Inv r)) (ext u) _ (Inv_ok HS.out.r).sq US.out).mono ?_
  rintro e w' ⟨rfl, b1⟩
  rw [thn_ext (Inv_ok HS.out.r) HS.out.u (by rw [Inv_len, HS.out.lr, HS.out.lu])]
  replace A1 := Lib.hid (A1.out.keep b1 A1.out.lt)
  replace B1 := Lib.hid (B1.out.trans (b1.mono B1.out.size))
  go_wp2_with fail
  have hHeld2 := hHeld.later b1 (by omega); clear b1 hHeld
  refine hK.out _ _ hHeld2 (fun hHeld => ?_)
  clear hK K hHeld2
  refine wpAnyH_ready (rs := [10]) (by kernel_rfl) (by simp) (AllReadyH.cons rfl (fun K hK => ?_) AllReadyH.nil)
  refine step_build rfl 62 _ rfl [(0, .agg (V (ext r)).toArray), (1, .agg (V (ext (thn (Inv r) u))).toArray), (2, .int .i64 n)] rfl (V (gl (ext r) (ext (thn (Inv r) u)) n)).toArray (built_gl (ext_len _) (ext_len _) n) ?_
  refine hK.out _ _ hHeld (fun hHeld2 => ?_)
  clear hK K hHeld2
  refine wpAnyH_ready (rs := [11]) (by kernel_rfl) (by simp) (AllReadyH.cons rfl (fun K hK => ?_) AllReadyH.nil)
  refine step_store_row rfl 62 _ _ rfl (w.heap.size + 1) (V (gl (ext r) (ext (thn (Inv r) u)) n)).toArray rfl rfl 62 (V zero49).toArray A1.out (size49 (gl_len (ext_len _) (ext_len _) n)) (by simp [V_len, gl_len, ext_len, zero49]) (one_V _) ?_
  refine hK.out _ _ (hHeld.other (by omega) (by simp) _) (fun hHeld2 => ?_)
  clear hK K hHeld2
  refine wpAnyH_done (by kernel_rfl) ?_ _
  go_wp2_with fail
  exact bodyPost_ret (v := .agg (V (gl (ext r) (ext (thn (Inv r) u)) n)).toArray) (results_cell_row rfl _ _ (w.heap.size + 1) 62 (V (gl (ext r) (ext (thn (Inv r) u)) n)).toArray (0, 0) _ rfl A1.out.row sqp.underlying62 rfl (size49 (gl_len (ext_len _) (ext_len _) n))) rfl ⟨rfl, below_setRow B1.out (by omega) _⟩
set_option maxHeartbeats 8000000 in
theorem lit2 (r u : List Int) (n : Nat) (w : World) (hs : Sf n r u) :
    Calls sqp.prog 130 #[.agg (V (gl (ext r) (ext u) n)).toArray] w fun e w' => e = .returned (.agg (V (gl (ext r) (ext (thn r u)) n)).toArray) ∧ Below w.heap.size w w' := by
  have HS := Lib.hid hs
  have RS := Lib.hid hs.r.sq; have US := Lib.hid hs.u.sq
  have ER := Lib.hid (inv_ext hs.r); have EU := Lib.hid (inv_ext hs.u)
  clear hs
  go_enter sqp.func130, sqp.ntmps130
  go_wp2_with fail
  generalize hw1 : (w.alloc (.cells (V (gl (ext r) (ext u) n)).toArray 62)).alloc (.cells #[.int .i64 0, .int .i64 0, .int .i64 0, .int .i64 0, .int .i64 0, .int .i64 0, .int .i64 0, .int .i64 0, .int .i64 0, .int .i64 0, .int .i64 0, .int .i64 0, .int .i64 0, .int .i64 0, .int .i64 0, .int .i64 0, .int .i64 0, .int .i64 0, .int .i64 0, .int .i64 0, .int .i64 0, .int .i64 0, .int .i64 0, .int .i64 0, .int .i64 0, .int .i64 0, .int .i64 0, .int .i64 0, .int .i64 0, .int .i64 0, .int .i64 0, .int .i64 0, .int .i64 0, .int .i64 0, .int .i64 0, .int .i64 0, .int .i64 0, .int .i64 0, .int .i64 0, .int .i64 0, .int .i64 0, .int .i64 0, .int .i64 0, .int .i64 0, .int .i64 0, .int .i64 0, .int .i64 0, .int .i64 0, .int .i64 0] 62) = w1
  have A0 : Hid (Arr w1 w.heap.size (V (gl (ext r) (ext u) n)) 62) := Lib.hid (by rw [← hw1]; exact (Arr.new w _ _ rfl).alloc _)
  have A1 : Hid (Arr w1 (w.heap.size + 1) (V zero49) 62) := Lib.hid (by rw [← hw1]; exact Arr.new _ (V zero49) _ (by simp))
  have B1 : Hid (Below w.heap.size w w1) := Lib.hid (by rw [← hw1]; exact ((Below.refl _ _).alloc (Nat.le_refl _) _).alloc (by simp) _)
  have s1 : w1.heap.size = w.heap.size + 2 := by rw [← hw1]; simp
  clear hw1
  refine wp_region_held_drew (S := Hld w.heap.size w1.heap.size w1 [(w.heap.size, (V (gl (ext r) (ext u) n)))]) (by kernel_rfl) ((Hld.start1 A0.out).lower (by omega)) (fun hHeld => ?_)
  have b1 : Below w1.heap.size w1 w1.drew := ⟨rfl, rfl, rfl, Nat.le_refl _, fun _ _ => rfl⟩
  generalize w1.drew = w2 at *
  have s2 := b1.size
  replace A1 := Lib.hid (A1.out.keep b1 A1.out.lt)
  replace B1 := Lib.hid (B1.out.trans (b1.mono B1.out.size))
  clear b1 A0
  refine wpAnyH_take (i := 0) (v := .pointer (some ⟨w.heap.size, 0, none⟩)) rfl (by kernel_rfl) (by kernel_rfl) (by kernel_rfl) (fun _ _ _ h => h) (Or.inl ⟨by rfl, fun w hSw => by go_simp⟩) hHeld ?_
  refine wpAnyH_take (i := 2) (v := .pointer (some ⟨w.heap.size, 0, none⟩)) rfl (by kernel_rfl) (by kernel_rfl) (by kernel_rfl) (fun _ _ _ h => h) (Or.inl ⟨by rfl, fun w hSw => by go_simp⟩) hHeld ?_
  refine wpAnyH_take (i := 4) (v := .pointer (some ⟨w.heap.size, 24, none⟩)) rfl (by kernel_rfl) (by kernel_rfl) (by kernel_rfl) (fun _ _ _ h => h) (Or.inl ⟨by rfl, fun w hSw => by go_simp⟩) hHeld ?_
  refine wpAnyH_take (i := 7) (v := .pointer (some ⟨w.heap.size, 48, none⟩)) rfl (by kernel_rfl) (by kernel_rfl) (by kernel_rfl) (fun _ _ _ h => h) (Or.inl ⟨by rfl, fun w hSw => by go_simp⟩) hHeld ?_
  refine wpAnyH_take (i := 1) (v := .agg (V (ext r)).toArray) rfl (by kernel_rfl) (by kernel_rfl) (by kernel_rfl) (fun _ _ _ h => h) (yieldsIf_load_mid (by rfl) _ _ rfl (w.heap.size) 0 rfl (V (ext r)) _ (fun w h => rg_right (ext_len _) h.fst) sqp.underlying60 rfl (hi24 (ext_len _))) hHeld ?_
  refine wpAnyH_take (i := 3) (v := .agg (V (ext r)).toArray) rfl (by kernel_rfl) (by kernel_rfl) (by kernel_rfl) (fun _ _ _ h => h) (yieldsIf_load_mid (by rfl) _ _ rfl (w.heap.size) 0 rfl (V (ext r)) _ (fun w h => rg_right (ext_len _) h.fst) sqp.underlying60 rfl (hi24 (ext_len _))) hHeld ?_
  refine wpAnyH_take (i := 5) (v := .agg (V (ext u)).toArray) rfl (by kernel_rfl) (by kernel_rfl) (by kernel_rfl) (fun _ _ _ h => h) (yieldsIf_load_mid (by rfl) _ _ rfl (w.heap.size) 24 rfl (V (ext u)) _ (fun w h => rg_up (ext_len _) (ext_len _) h.fst) sqp.underlying60 rfl (hi24 (ext_len _))) hHeld ?_
  refine wpAnyH_take (i := 8) (v := .int .i64 n) rfl (by kernel_rfl) (by kernel_rfl) (by kernel_rfl) (fun _ _ _ h => h) (Or.inl ⟨by rfl, fun w hSw => by have := rg_count (ext_len _) (ext_len _) hSw.fst; go_simp⟩) hHeld ?_
  refine wpAnyH_ready (rs := [6]) (by kernel_rfl) (by simp) (AllReadyH.cons rfl (fun K hK => ?_) AllReadyH.nil)
  go_simp
  refine (inv.then_any (ext r) (ext u) _ RS.out US.out).mono ?_
  rintro e w' ⟨rfl, b1⟩
  rw [thn_ext HS.out.r HS.out.u (by rw [HS.out.lr, HS.out.lu])]
  replace A1 := Lib.hid (A1.out.keep b1 A1.out.lt)
  replace B1 := Lib.hid (B1.out.trans (b1.mono B1.out.size))
  go_wp2_with fail
  have hHeld2 := hHeld.later b1 (by omega); clear b1 hHeld
  refine hK.out _ _ hHeld2 (fun hHeld => ?_)
  clear hK K hHeld2
  refine wpAnyH_ready (rs := [9]) (by kernel_rfl) (by simp) (AllReadyH.cons rfl (fun K hK => ?_) AllReadyH.nil)
  refine step_build rfl 62 _ rfl [(0, .agg (V (ext r)).toArray), (1, .agg (V (ext (thn r u))).toArray), (2, .int .i64 n)] rfl (V (gl (ext r) (ext (thn r u)) n)).toArray (built_gl (ext_len _) (ext_len _) n) ?_
  refine hK.out _ _ hHeld (fun hHeld2 => ?_)
  clear hK K hHeld2
  refine wpAnyH_ready (rs := [10]) (by kernel_rfl) (by simp) (AllReadyH.cons rfl (fun K hK => ?_) AllReadyH.nil)
  refine step_store_row rfl 62 _ _ rfl (w.heap.size + 1) (V (gl (ext r) (ext (thn r u)) n)).toArray rfl rfl 62 (V zero49).toArray A1.out (size49 (gl_len (ext_len _) (ext_len _) n)) (by simp [V_len, gl_len, ext_len, zero49]) (one_V _) ?_
  refine hK.out _ _ (hHeld.other (by omega) (by simp) _) (fun hHeld2 => ?_)
  clear hK K hHeld2
  refine wpAnyH_done (by kernel_rfl) ?_ _
  go_wp2_with fail
  exact bodyPost_ret (v := .agg (V (gl (ext r) (ext (thn r u)) n)).toArray) (results_cell_row rfl _ _ (w.heap.size + 1) 62 (V (gl (ext r) (ext (thn r u)) n)).toArray (0, 0) _ rfl A1.out.row sqp.underlying62 rfl (size49 (gl_len (ext_len _) (ext_len _) n))) rfl ⟨rfl, below_setRow B1.out (by omega) _⟩
set_option maxHeartbeats 8000000 in
theorem lit3 (r u : List Int) (n : Nat) (w : World) (hs : Sf n r u) :
    Calls sqp.prog 131 #[.agg (V (gl (ext r) (ext u) n)).toArray] w fun e w' => e = .returned (.agg (V (gl (ext (Inv u)) (ext r) n)).toArray) ∧ Below w.heap.size w w' := by
  have HS := Lib.hid hs
  have RS := Lib.hid hs.r.sq; have US := Lib.hid hs.u.sq
  have ER := Lib.hid (inv_ext hs.r); have EU := Lib.hid (inv_ext hs.u)
  clear hs
  go_enter sqp.func131, sqp.ntmps131
  go_wp2_with fail
  generalize hw1 : (w.alloc (.cells (V (gl (ext r) (ext u) n)).toArray 62)).alloc (.cells #[.int .i64 0, .int .i64 0, .int .i64 0, .int .i64 0, .int .i64 0, .int .i64 0, .int .i64 0, .int .i64 0, .int .i64 0, .int .i64 0, .int .i64 0, .int .i64 0, .int .i64 0, .int .i64 0, .int .i64 0, .int .i64 0, .int .i64 0, .int .i64 0, .int .i64 0, .int .i64 0, .int .i64 0, .int .i64 0, .int .i64 0, .int .i64 0, .int .i64 0, .int .i64 0, .int .i64 0, .int .i64 0, .int .i64 0, .int .i64 0, .int .i64 0, .int .i64 0, .int .i64 0, .int .i64 0, .int .i64 0, .int .i64 0, .int .i64 0, .int .i64 0, .int .i64 0, .int .i64 0, .int .i64 0, .int .i64 0, .int .i64 0, .int .i64 0, .int .i64 0, .int .i64 0, .int .i64 0, .int .i64 0, .int .i64 0] 62) = w1
  have A0 : Hid (Arr w1 w.heap.size (V (gl (ext r) (ext u) n)) 62) := Lib.hid (by rw [← hw1]; exact (Arr.new w _ _ rfl).alloc _)
  have A1 : Hid (Arr w1 (w.heap.size + 1) (V zero49) 62) := Lib.hid (by rw [← hw1]; exact Arr.new _ (V zero49) _ (by simp))
  have B1 : Hid (Below w.heap.size w w1) := Lib.hid (by rw [← hw1]; exact ((Below.refl _ _).alloc (Nat.le_refl _) _).alloc (by simp) _)
  have s1 : w1.heap.size = w.heap.size + 2 := by rw [← hw1]; simp
  clear hw1
  refine wp_region_held_drew (S := Hld w.heap.size w1.heap.size w1 [(w.heap.size, (V (gl (ext r) (ext u) n)))]) (by kernel_rfl) ((Hld.start1 A0.out).lower (by omega)) (fun hHeld => ?_)
  have b1 : Below w1.heap.size w1 w1.drew := ⟨rfl, rfl, rfl, Nat.le_refl _, fun _ _ => rfl⟩
  generalize w1.drew = w2 at *
  have s2 := b1.size
  replace A1 := Lib.hid (A1.out.keep b1 A1.out.lt)
  replace B1 := Lib.hid (B1.out.trans (b1.mono B1.out.size))
  clear b1 A0
  refine wpAnyH_take (i := 0) (v := .pointer (some ⟨w.heap.size, 24, none⟩)) rfl (by kernel_rfl) (by kernel_rfl) (by kernel_rfl) (fun _ _ _ h => h) (Or.inl ⟨by rfl, fun w hSw => by go_simp⟩) hHeld ?_
  refine wpAnyH_take (i := 3) (v := .pointer (some ⟨w.heap.size, 0, none⟩)) rfl (by kernel_rfl) (by kernel_rfl) (by kernel_rfl) (fun _ _ _ h => h) (Or.inl ⟨by rfl, fun w hSw => by go_simp⟩) hHeld ?_
  refine wpAnyH_take (i := 5) (v := .pointer (some ⟨w.heap.size, 48, none⟩)) rfl (by kernel_rfl) (by kernel_rfl) (by kernel_rfl) (fun _ _ _ h => h) (Or.inl ⟨by rfl, fun w hSw => by go_simp⟩) hHeld ?_
  refine wpAnyH_take (i := 1) (v := .agg (V (ext u)).toArray) rfl (by kernel_rfl) (by kernel_rfl) (by kernel_rfl) (fun _ _ _ h => h) (yieldsIf_load_mid (by rfl) _ _ rfl (w.heap.size) 24 rfl (V (ext u)) _ (fun w h => rg_up (ext_len _) (ext_len _) h.fst) sqp.underlying60 rfl (hi24 (ext_len _))) hHeld ?_
  refine wpAnyH_take (i := 4) (v := .agg (V (ext r)).toArray) rfl (by kernel_rfl) (by kernel_rfl) (by kernel_rfl) (fun _ _ _ h => h) (yieldsIf_load_mid (by rfl) _ _ rfl (w.heap.size) 0 rfl (V (ext r)) _ (fun w h => rg_right (ext_len _) h.fst) sqp.underlying60 rfl (hi24 (ext_len _))) hHeld ?_
  refine wpAnyH_take (i := 6) (v := .int .i64 n) rfl (by kernel_rfl) (by kernel_rfl) (by kernel_rfl) (fun _ _ _ h => h) (Or.inl ⟨by rfl, fun w hSw => by have := rg_count (ext_len _) (ext_len _) hSw.fst; go_simp⟩) hHeld ?_
  refine wpAnyH_ready (rs := [2]) (by kernel_rfl) (by simp) (AllReadyH.cons rfl (fun K hK => ?_) AllReadyH.nil)
  go_simp
  refine (inverse_any (ext u) _ US.out).mono ?_
  rintro e w' ⟨rfl, b1⟩
  rw [EU.out]
  replace A1 := Lib.hid (A1.out.keep b1 A1.out.lt)
  replace B1 := Lib.hid (B1.out.trans (b1.mono B1.out.size))
  go_wp2_with fail
  have hHeld2 := hHeld.later b1 (by omega); clear b1 hHeld
  refine hK.out _ _ hHeld2 (fun hHeld => ?_)
  clear hK K hHeld2
  refine wpAnyH_ready (rs := [7]) (by kernel_rfl) (by simp) (AllReadyH.cons rfl (fun K hK => ?_) AllReadyH.nil)
  refine step_build rfl 62 _ rfl [(0, .agg (V (ext (Inv u))).toArray), (1, .agg (V (ext r)).toArray), (2, .int .i64 n)] rfl (V (gl (ext (Inv u)) (ext r) n)).toArray (built_gl (ext_len _) (ext_len _) n) ?_
  refine hK.out _ _ hHeld (fun hHeld2 => ?_)
  clear hK K hHeld2
  refine wpAnyH_ready (rs := [8]) (by kernel_rfl) (by simp) (AllReadyH.cons rfl (fun K hK => ?_) AllReadyH.nil)
  refine step_store_row rfl 62 _ _ rfl (w.heap.size + 1) (V (gl (ext (Inv u)) (ext r) n)).toArray rfl rfl 62 (V zero49).toArray A1.out (size49 (gl_len (ext_len _) (ext_len _) n)) (by simp [V_len, gl_len, ext_len, zero49]) (one_V _) ?_
  refine hK.out _ _ (hHeld.other (by omega) (by simp) _) (fun hHeld2 => ?_)
  clear hK K hHeld2
  refine wpAnyH_done (by kernel_rfl) ?_ _
  go_wp2_with fail
  exact bodyPost_ret (v := .agg (V (gl (ext (Inv u)) (ext r) n)).toArray) (results_cell_row rfl _ _ (w.heap.size + 1) 62 (V (gl (ext (Inv u)) (ext r) n)).toArray (0, 0) _ rfl A1.out.row sqp.underlying62 rfl (size49 (gl_len (ext_len _) (ext_len _) n))) rfl ⟨rfl, below_setRow B1.out (by omega) _⟩
set_option maxHeartbeats 8000000 in
theorem lit4 (r u : List Int) (n : Nat) (w : World) (hs : Sf n r u) :
    Calls sqp.prog 132 #[.agg (V (gl (ext r) (ext u) n)).toArray] w fun e w' => e = .returned (.agg (V (gl (ext u) (ext (Inv r)) n)).toArray) ∧ Below w.heap.size w w' := by
  have HS := Lib.hid hs
  have RS := Lib.hid hs.r.sq; have US := Lib.hid hs.u.sq
  have ER := Lib.hid (inv_ext hs.r); have EU := Lib.hid (inv_ext hs.u)
  clear hs
  go_enter sqp.func132, sqp.ntmps132
  go_wp2_with fail
  generalize hw1 : (w.alloc (.cells (V (gl (ext r) (ext u) n)).toArray 62)).alloc (.cells #[.int .i64 0, .int .i64 0, .int .i64 0, .int .i64 0, .int .i64 0, .int .i64 0, .int .i64 0, .int .i64 0, .int .i64 0, .int .i64 0, .int .i64 0, .int .i64 0, .int .i64 0, .int .i64 0, .int .i64 0, .int .i64 0, .int .i64 0, .int .i64 0, .int .i64 0, .int .i64 0, .int .i64 0, .int .i64 0, .int .i64 0, .int .i64 0, .int .i64 0, .int .i64 0, .int .i64 0, .int .i64 0, .int .i64 0, .int .i64 0, .int .i64 0, .int .i64 0, .int .i64 0, .int .i64 0, .int .i64 0, .int .i64 0, .int .i64 0, .int .i64 0, .int .i64 0, .int .i64 0, .int .i64 0, .int .i64 0, .int .i64 0, .int .i64 0, .int .i64 0, .int .i64 0, .int .i64 0, .int .i64 0, .int .i64 0] 62) = w1
  have A0 : Hid (Arr w1 w.heap.size (V (gl (ext r) (ext u) n)) 62) := Lib.hid (by rw [← hw1]; exact (Arr.new w _ _ rfl).alloc _)
  have A1 : Hid (Arr w1 (w.heap.size + 1) (V zero49) 62) := Lib.hid (by rw [← hw1]; exact Arr.new _ (V zero49) _ (by simp))
  have B1 : Hid (Below w.heap.size w w1) := Lib.hid (by rw [← hw1]; exact ((Below.refl _ _).alloc (Nat.le_refl _) _).alloc (by simp) _)
  have s1 : w1.heap.size = w.heap.size + 2 := by rw [← hw1]; simp
  clear hw1
  refine wp_region_held_drew (S := Hld w.heap.size w1.heap.size w1 [(w.heap.size, (V (gl (ext r) (ext u) n)))]) (by kernel_rfl) ((Hld.start1 A0.out).lower (by omega)) (fun hHeld => ?_)
  have b1 : Below w1.heap.size w1 w1.drew := ⟨rfl, rfl, rfl, Nat.le_refl _, fun _ _ => rfl⟩
  generalize w1.drew = w2 at *
  have s2 := b1.size
  replace A1 := Lib.hid (A1.out.keep b1 A1.out.lt)
  replace B1 := Lib.hid (B1.out.trans (b1.mono B1.out.size))
  clear b1 A0
  refine wpAnyH_take (i := 0) (v := .pointer (some ⟨w.heap.size, 24, none⟩)) rfl (by kernel_rfl) (by kernel_rfl) (by kernel_rfl) (fun _ _ _ h => h) (Or.inl ⟨by rfl, fun w hSw => by go_simp⟩) hHeld ?_
  refine wpAnyH_take (i := 2) (v := .pointer (some ⟨w.heap.size, 0, none⟩)) rfl (by kernel_rfl) (by kernel_rfl) (by kernel_rfl) (fun _ _ _ h => h) (Or.inl ⟨by rfl, fun w hSw => by go_simp⟩) hHeld ?_
  refine wpAnyH_take (i := 5) (v := .pointer (some ⟨w.heap.size, 48, none⟩)) rfl (by kernel_rfl) (by kernel_rfl) (by kernel_rfl) (fun _ _ _ h => h) (Or.inl ⟨by rfl, fun w hSw => by go_simp⟩) hHeld ?_
  refine wpAnyH_take (i := 1) (v := .agg (V (ext u)).toArray) rfl (by kernel_rfl) (by kernel_rfl) (by kernel_rfl) (fun _ _ _ h => h) (yieldsIf_load_mid (by rfl) _ _ rfl (w.heap.size) 24 rfl (V (ext u)) _ (fun w h => rg_up (ext_len _) (ext_len _) h.fst) sqp.underlying60 rfl (hi24 (ext_len _))) hHeld ?_
  refine wpAnyH_take (i := 3) (v := .agg (V (ext r)).toArray) rfl (by kernel_rfl) (by kernel_rfl) (by kernel_rfl) (fun _ _ _ h => h) (yieldsIf_load_mid (by rfl) _ _ rfl (w.heap.size) 0 rfl (V (ext r)) _ (fun w h => rg_right (ext_len _) h.fst) sqp.underlying60 rfl (hi24 (ext_len _))) hHeld ?_
  refine wpAnyH_take (i := 6) (v := .int .i64 n) rfl (by kernel_rfl) (by kernel_rfl) (by kernel_rfl) (fun _ _ _ h => h) (Or.inl ⟨by rfl, fun w hSw => by have := rg_count (ext_len _) (ext_len _) hSw.fst; go_simp⟩) hHeld ?_
  refine wpAnyH_ready (rs := [4]) (by kernel_rfl) (by simp) (AllReadyH.cons rfl (fun K hK => ?_) AllReadyH.nil)
  go_simp
  refine (inverse_any (ext r) _ RS.out).mono ?_
  rintro e w' ⟨rfl, b1⟩
  rw [ER.out]
  replace A1 := Lib.hid (A1.out.keep b1 A1.out.lt)
  replace B1 := Lib.hid (B1.out.trans (b1.mono B1.out.size))
  go_wp2_with fail
  have hHeld2 := hHeld.later b1 (by omega); clear b1 hHeld
  refine hK.out _ _ hHeld2 (fun hHeld => ?_)
  clear hK K hHeld2
  refine wpAnyH_ready (rs := [7]) (by kernel_rfl) (by simp) (AllReadyH.cons rfl (fun K hK => ?_) AllReadyH.nil)
  refine step_build rfl 62 _ rfl [(0, .agg (V (ext u)).toArray), (1, .agg (V (ext (Inv r))).toArray), (2, .int .i64 n)] rfl (V (gl (ext u) (ext (Inv r)) n)).toArray (built_gl (ext_len _) (ext_len _) n) ?_
  refine hK.out _ _ hHeld (fun hHeld2 => ?_)
  clear hK K hHeld2
  refine wpAnyH_ready (rs := [8]) (by kernel_rfl) (by simp) (AllReadyH.cons rfl (fun K hK => ?_) AllReadyH.nil)
  refine step_store_row rfl 62 _ _ rfl (w.heap.size + 1) (V (gl (ext u) (ext (Inv r)) n)).toArray rfl rfl 62 (V zero49).toArray A1.out (size49 (gl_len (ext_len _) (ext_len _) n)) (by simp [V_len, gl_len, ext_len, zero49]) (one_V _) ?_
  refine hK.out _ _ (hHeld.other (by omega) (by simp) _) (fun hHeld2 => ?_)
  clear hK K hHeld2
  refine wpAnyH_done (by kernel_rfl) ?_ _
  go_wp2_with fail
  exact bodyPost_ret (v := .agg (V (gl (ext u) (ext (Inv r)) n)).toArray) (results_cell_row rfl _ _ (w.heap.size + 1) 62 (V (gl (ext u) (ext (Inv r)) n)).toArray (0, 0) _ rfl A1.out.row sqp.underlying62 rfl (size49 (gl_len (ext_len _) (ext_len _) n))) rfl ⟨rfl, below_setRow B1.out (by omega) _⟩
def fTab : List Value := [.func (.func 129) #[] #[], .func (.func 130) #[] #[], .func (.func 131) #[] #[], .func (.func 132) #[] #[]]
theorem sizeF : (sqp.prog.info? 135).map (·.size) = some fTab.toArray.size := by kernel_rfl
set_option maxHeartbeats 1000000 in
theorem acts_any (w : World) : Calls sqp.prog 96 #[] w fun e w' => e = .returned (.agg fTab.toArray) ∧ Below w.heap.size w w' := by
  go_enter sqp.func96, sqp.ntmps96
  go_wp2_with (refine wpList_store_row rfl 135 _ _ rfl w.heap.size fTab.toArray rfl rfl 135 #[.nilFunc, .nilFunc, .nilFunc, .nilFunc] (Arr.new w [.nilFunc, .nilFunc, .nilFunc, .nilFunc] _ rfl) sizeF rfl (by simp [fTab, Value.oneCell']) ?_)
  exact bodyPost_ret (v := .agg fTab.toArray) (results_cell_row rfl _ _ w.heap.size 135 fTab.toArray (0, 0) _ rfl (Arr.new w [.nilFunc, .nilFunc, .nilFunc, .nilFunc] 135 rfl).row sqp.underlying135 rfl sizeF) rfl ⟨rfl, below_setRow ((Below.refl _ _).alloc (Nat.le_refl _) _) (Nat.le_refl _) _⟩
def letN (z : Int) (s : Sur) : Sur := if z = 0 then shearS s else if z = 1 then unshearS s else if z = 2 then turnS s else unturnS s
def runN (L : List Int) (s : Sur) : Sur := L.foldl (fun s z => letN z s) s
theorem letN_sf {n : Nat} {R U : List Int} (s : Sf n R U) (z : Int) : Sf n (letN z (R, U)).1 (letN z (R, U)).2 := by
  unfold letN
  split
  · exact shear_sf s
  · split
    · exact unshear_sf s
    · split
      · exact turn_sf s
      · exact unturn_sf s
theorem runN_sf {n : Nat} : ∀ (L : List Int) (s : Sur), Sf n s.1 s.2 → Sf n (runN L s).1 (runN L s).2 := by
  intro L
  induction L with
  | nil => intro s h; exact h
  | cons c L ih => intro s h; exact ih (letN c s) (letN_sf (R := s.1) (U := s.2) h c)
theorem runN_take {L : List Int} {k : Nat} {x : Int} (hx : L[k]? = some x) (s : Sur) : runN (L.take (k + 1)) s = letN x (runN (L.take k) s) := by
  unfold runN
  rw [List.take_add_one, hx, List.foldl_append]
  rfl
theorem letN_num {c : UInt8} (h : isL c = true) (s : Sur) : letN (wd.num c) s = letS c s := by
  rcases wd.num_cases h with ⟨a, b⟩ | ⟨a, b⟩ | ⟨a, b⟩ | ⟨a, b⟩ <;> rw [b] <;> simp [letN, letS, a]
theorem runN_nums : ∀ (l : List UInt8) (s : Sur), l.all isL = true → runN (l.map wd.num) s = runS l s := by
  intro l
  induction l with
  | nil => intro s _; rfl
  | cons c l ih =>
    intro s h
    simp only [List.all_cons, Bool.and_eq_true] at h
    show runN (l.map wd.num) (letN (wd.num c) s) = runS l (letS c s)
    rw [letN_num h.1, ih _ h.2]
theorem lit_any (z : Nat) (hz : z ≤ 3) (r u : List Int) (n : Nat) (w : World) (hs : Sf n r u) :
    ∃ f : Nat, fTab[z]? = some (.func (.func f) #[] #[]) ∧ (∀ args W, (callFunc f args).run sqp.prog W = .ok (.enter f args) W) ∧ Calls sqp.prog f #[.agg (V (gl (ext r) (ext u) n)).toArray] w fun e w' => e = .returned (.agg (V (gl (ext (letN (z : Int) (r, u)).1) (ext (letN (z : Int) (r, u)).2) n)).toArray) ∧ Below w.heap.size w w' := by
  match z, hz with
  | 0, _ => exact ⟨_, rfl, enters_of sqp.func129 (by kernel_rfl) rfl, lit1 r u n w hs⟩
  | 1, _ => exact ⟨_, rfl, enters_of sqp.func130 (by kernel_rfl) rfl, lit2 r u n w hs⟩
  | 2, _ => exact ⟨_, rfl, enters_of sqp.func131 (by kernel_rfl) rfl, lit3 r u n w hs⟩
  | 3, _ => exact ⟨_, rfl, enters_of sqp.func132 (by kernel_rfl) rfl, lit4 r u n w hs⟩
theorem still_take {P : Program} {ops : Array Oper} {w : World} {Q : Act → Prop} {a : Act} {o : Oper} {rest : List Oper} {v : Value} (hy : YieldsIf P ops (fun W => W = w) o v a) (h : wpStill P ops w Q rest (a.put o.dst v)) : wpStill P ops w Q (o :: rest) a := by
  unfold wpStill
  rcases hy with ⟨hw, hv⟩ | ⟨hw, rfl⟩
  · rw [if_pos hw]
    unfold Oper.still
    rw [hv w rfl, Oper.stillUpon_value]
    exact h
  · rw [if_neg (by rw [hw]; decide)]
    exact h
structure AR (w wr : World) (B5 : Nat) (p : List Int) : Prop where
  g : Arr wr w.heap.size (V p) 62
  res : Arr wr (w.heap.size + 1) (V zero49) 62
  tab : Arr wr B5 fTab 135
  hB : w.heap.size + 1 < B5
  bel : Below w.heap.size w wr
set_option maxHeartbeats 4000000 in
theorem after_any (r u : List Int) (n : Nat) (A : Option Addr) (m c : Nat) (L : List Int) (hi : Nat) (w : World) (hL : Rd w hi A m (V L)) (hh : hi ≤ w.heap.size) (h3 : ∀ l ∈ L, 0 ≤ l ∧ l ≤ 3) (hs : Sf n r u) (hm : m ≤ 40) :
    Calls sqp.prog 73 #[.agg (V (gl (ext r) (ext u) n)).toArray, .slice A m c] w fun e w' => e = .returned (.agg (V (gl (ext (runN L (r, u)).1) (ext (runN L (r, u)).2) n)).toArray) ∧ Below w.heap.size w w' := by
  have HS := Lib.hid hs; have HL := Lib.hid hL; have H3 := Lib.hid h3; have LL : Hid (L.length = m) := Lib.hid (by simpa [V] using hL.1)
  clear hs hL h3
  go_enter sqp.func73, sqp.ntmps73
  go_wp2_with fail
  generalize hw1 : (w.alloc (.cells (V (gl (ext r) (ext u) n)).toArray 62)).alloc (.cells #[.int .i64 0, .int .i64 0, .int .i64 0, .int .i64 0, .int .i64 0, .int .i64 0, .int .i64 0, .int .i64 0, .int .i64 0, .int .i64 0, .int .i64 0, .int .i64 0, .int .i64 0, .int .i64 0, .int .i64 0, .int .i64 0, .int .i64 0, .int .i64 0, .int .i64 0, .int .i64 0, .int .i64 0, .int .i64 0, .int .i64 0, .int .i64 0, .int .i64 0, .int .i64 0, .int .i64 0, .int .i64 0, .int .i64 0, .int .i64 0, .int .i64 0, .int .i64 0, .int .i64 0, .int .i64 0, .int .i64 0, .int .i64 0, .int .i64 0, .int .i64 0, .int .i64 0, .int .i64 0, .int .i64 0, .int .i64 0, .int .i64 0, .int .i64 0, .int .i64 0, .int .i64 0, .int .i64 0, .int .i64 0, .int .i64 0] 62) = w1
  have A0 : Hid (Arr w1 w.heap.size (V (gl (ext r) (ext u) n)) 62) := Lib.hid (by rw [← hw1]; exact (Arr.new w _ _ rfl).alloc _)
  have A1 : Hid (Arr w1 (w.heap.size + 1) (V zero49) 62) := Lib.hid (by rw [← hw1]; exact Arr.new _ (V zero49) _ (by simp))
  have B1 : Hid (Below w.heap.size w w1) := Lib.hid (by rw [← hw1]; exact ((Below.refl _ _).alloc (Nat.le_refl _) _).alloc (by simp) _)
  have s1 : w1.heap.size = w.heap.size + 2 := by rw [← hw1]; simp
  clear hw1
  refine (acts_any _).mono ?_
  rintro e w2 ⟨rfl, b1⟩
  have s2 := b1.size
  replace A0 := Lib.hid (A0.out.keep b1 A0.out.lt)
  replace A1 := Lib.hid (A1.out.keep b1 A1.out.lt)
  replace B1 := Lib.hid (B1.out.trans (b1.mono B1.out.size))
  clear b1
  go_wp2_with (refine wpList_store_row rfl 135 _ _ rfl w2.heap.size fTab.toArray rfl rfl 135 #[.nilFunc, .nilFunc, .nilFunc, .nilFunc] (Arr.new w2 [.nilFunc, .nilFunc, .nilFunc, .nilFunc] _ rfl) sizeF rfl (by simp [fTab, Value.oneCell']) ?_)
  generalize hw3 : (w2.alloc (.cells #[.nilFunc, .nilFunc, .nilFunc, .nilFunc] 135)).setRow w2.heap.size fTab.toArray = w3
  have A5 : Hid (Arr w3 w2.heap.size fTab 135) := Lib.hid (by rw [← hw3]; exact (Arr.new w2 [.nilFunc, .nilFunc, .nilFunc, .nilFunc] _ rfl).row)
  have b1 : Below w2.heap.size w2 w3 := by rw [← hw3]; exact below_setRow ((Below.refl _ _).alloc (Nat.le_refl _) _) (Nat.le_refl _) _
  clear hw3
  have hAR : AR w w3 w2.heap.size (gl (ext r) (ext u) n) := ⟨A0.out.keep b1 A0.out.lt, A1.out.keep b1 A1.out.lt, A5.out, by omega, B1.out.trans (b1.mono B1.out.size)⟩
  clear A0 A1 A5 B1 b1
  have HAR := Lib.hid hAR; clear hAR
  go_loopw [11] (fun i wr => ∃ k : Nat, k ≤ m ∧ i = .int .i64 k ∧ AR w wr w2.heap.size (gl (ext (runN (L.take k) (r, u)).1) (ext (runN (L.take k) (r, u)).2) n)) (fun i _ => m - (intOf i).toNat)
  case atStart => exact ⟨0, Nat.zero_le _, rfl, HAR.out⟩
  case round =>
    clear HAR
    obtain ⟨k, hk, rfl, hr⟩ := hrel
    have HR := Lib.hid hr; clear hr
    by_cases hlt : k < m
    · obtain ⟨x, hx⟩ : ∃ x, L[k]? = some x := ⟨L[k]'(by rw [LL.out]; exact hlt), List.getElem?_eq_getElem _⟩
      have h03 := H3.out x (List.mem_of_getElem? hx)
      obtain ⟨z, rfl⟩ := Int.eq_ofNat_of_zero_le h03.1
      have hz3 : z ≤ 3 := by have := h03.2; omega
      have ST := Lib.hid (runN_take hx (r, u))
      have SK := Lib.hid (runN_sf (L.take k) (r, u) HS.out)
      have RD := HL.out.keep HR.out.bel hh
      obtain ⟨go, oo, uo, rfl, hgo, huo, hco⟩ := RD.at_ hlt
      rw [V_get hx] at huo
      obtain rfl := Option.some.inj huo
      clear RD huo h03 hx
      obtain ⟨rk, hrk⟩ : ∃ q, q = runN (L.take k) (r, u) := ⟨_, rfl⟩
      rw [← hrk] at HR ST SK
      clear hrk
      obtain ⟨ru, uu⟩ := rk
      have hBw : w2.heap.size < wr.heap.size := HR.out.tab.lt
      have hB := HR.out.hB
      obtain ⟨f, hf, hen, hc⟩ := lit_any z hz3 ru uu n wr.drew SK.out
      have HC := Lib.hid hc; have HF := Lib.hid hf; have HE := Lib.hid hen; clear hf hc hen
      go_wp2_with fail
      refine wp_region_still_tail 4 (by kernel_rfl) (by kernel_rfl) ?_
      simp only [List.take_succ_cons, List.take_zero, List.drop_succ_cons, List.drop_zero]
      have b1 : Below wr.heap.size wr wr.drew := ⟨rfl, rfl, rfl, Nat.le_refl _, fun _ _ => rfl⟩
      change wpStill _ _ wr.drew _ _ _
      have AF : Hid (AR w wr.drew w2.heap.size (gl (ext ru) (ext uu) n)) := Lib.hid ⟨HR.out.g.keep b1 HR.out.g.lt, HR.out.res.keep b1 HR.out.res.lt, HR.out.tab.keep b1 HR.out.tab.lt, hB, HR.out.bel.trans (b1.mono HR.out.bel.size)⟩
      have s_ := b1.size
      generalize hw4 : wr.drew = w4 at *
      clear b1 HR
      refine still_take (v := .int .i64 (z : Int)) (Or.inl ⟨by rfl, fun w hSw => by go_simp⟩) ?_
      refine still_take (v := .pointer (some ⟨w2.heap.size, z, none⟩)) (Or.inl ⟨by rfl, fun w hSw => by go_simp; intro h4; exact absurd h4 (by omega)⟩) ?_
      refine still_take (v := .func (.func f) #[] #[]) (Or.inl ⟨by rfl, fun W hSw => by subst hSw; have hc := AF.out.tab.cell HF.out; go_simp⟩) ?_
      refine still_take (v := .agg (V (gl (ext ru) (ext uu) n)).toArray) (yieldsIf_load_mid (by rfl) _ _ rfl (w.heap.size) 0 rfl (V (gl (ext ru) (ext uu) n)) _ (fun W h => by subst h; exact fun j v hv => by rw [Nat.zero_add]; exact AF.out.g.cell hv) sqp.underlying62 rfl (hi49 (gl_len (ext_len _) (ext_len _) _))) ?_
      refine wpStill_nil ?_
      change wpList _ _ _ _ _ wr.drew
      rw [hw4]
      clear hw4
      have hE := HE.out
      go_wp2_with fail
      refine HC.out.mono ?_
      rintro e w5 ⟨rfl, b1⟩
      have s5 := b1.size
      have GL := Lib.hid (gl_len (ext_len (letN (z : Int) (ru, uu)).1) (ext_len (letN (z : Int) (ru, uu)).2) n)
      replace AF : Hid (AR w w5 w2.heap.size (gl (ext ru) (ext uu) n)) := Lib.hid ⟨AF.out.g.keep b1 AF.out.g.lt, AF.out.res.keep b1 AF.out.res.lt, AF.out.tab.keep b1 AF.out.tab.lt, hB, AF.out.bel.trans (b1.mono AF.out.bel.size)⟩
      clear b1 hE HE HC HF
      go_wp2_with (refine wpList_store_row rfl 62 _ _ rfl w.heap.size (V (gl (ext (letN (z : Int) (ru, uu)).1) (ext (letN (z : Int) (ru, uu)).2) n)).toArray rfl rfl 62 (V (gl (ext ru) (ext uu) n)).toArray AF.out.g (size49 GL.out) (by simp [V_len, GL.out, gl_len, ext_len]) (one_V _) ?_)
      have HN : Hid (AR w (w5.setRow w.heap.size (V (gl (ext (letN (z : Int) (ru, uu)).1) (ext (letN (z : Int) (ru, uu)).2) n)).toArray) w2.heap.size (gl (ext (runN (L.take (k + 1)) (r, u)).1) (ext (runN (L.take (k + 1)) (r, u)).2) n)) := Lib.hid (by
        rw [ST.out]
        exact ⟨AF.out.g.row, AF.out.res.rowOther (by omega), AF.out.tab.rowOther (by omega), hB, below_setRow AF.out.bel (Nat.le_refl _) _⟩)
      generalize w5.setRow w.heap.size (V (gl (ext (letN (z : Int) (ru, uu)).1) (ext (letN (z : Int) (ru, uu)).2) n)).toArray = w6 at *
      clear AF
      go_wp2_with fail
      go_roundw
      case rel => exact ⟨k + 1, by omega, by go_num, HN.out⟩
      case measure => simp [intOf]; omega
    · obtain rfl : k = m := by omega
      have e : L.take k = L := List.take_of_length_le (by rw [LL.out]; exact Nat.le_refl _)
      rw [e] at HR; clear e
      have GL := Lib.hid (gl_len (ext_len (runN L (r, u)).1) (ext_len (runN L (r, u)).2) n)
      go_wp2_with (first | (refine wpList_load_row rfl 62 _ rfl w.heap.size rfl 62 (V (gl (ext (runN L (r, u)).1) (ext (runN L (r, u)).2) n)).toArray (0, 0) _ HR.out.g sqp.underlying62 rfl (size49 GL.out) ?_) | (refine wpList_store_row rfl 62 _ _ rfl (w.heap.size + 1) (V (gl (ext (runN L (r, u)).1) (ext (runN L (r, u)).2) n)).toArray rfl rfl 62 (V zero49).toArray HR.out.res (size49 GL.out) (by simp [V_len, GL.out, zero49]) (one_V _) ?_))
      exact bodyPost_ret (v := .agg (V (gl (ext (runN L (r, u)).1) (ext (runN L (r, u)).2) n)).toArray) (results_cell_row rfl _ _ (w.heap.size + 1) 62 (V (gl (ext (runN L (r, u)).1) (ext (runN L (r, u)).2) n)).toArray (0, 0) _ rfl HR.out.res.row sqp.underlying62 rfl (size49 GL.out)) rfl ⟨rfl, below_setRow HR.out.bel (by omega) _⟩
end Go.Proofs.Ytgcnemkhppkkcaa.la

namespace Go.Proofs.Ytgcnemkhppkkcaa.la
open Go.ChangeShapes Go.WideShapes Go.ChangeAt Go.RowKit
open mem ints arr pm permOk permOf inv fns sf gl mk lw
set_option linter.unusedVariables false
set_option maxRecDepth 100000
set_option maxHeartbeats 4000000 in
theorem sa_any (v : Value) (r u : List Int) (A : Option Addr) (m c : Nat) (L : List Int) (hi hi' : Nat) (w : World) (hx : Srd w hi v r u) (hn : r.length ≤ 1048576) (hm : u.length ≤ 1048576)
    (hL : Rd w hi' A m (V L)) (hh : hi' ≤ w.heap.size) (h3 : ∀ l ∈ L, 0 ≤ l ∧ l ≤ 3) (h40 : m ≤ 40) :
    Calls sqp.prog 44 #[v, .slice A m c] w (SB (acR (runN L) r u) (acU (runN L) r u) (transB r u) w) := by
  have HX := Lib.hid hx; have HL := Lib.hid hL; have H3 := Lib.hid h3; clear hL h3
  obtain ⟨P, n, c', Q, m', d, rfl, q1, q2, e1, e2, ht, HR⟩ := hx.open
  have L1 := Lib.hid q1
  clear hx
  have N0 := Lib.hid (fun o => Arr.new (w.alloc o) [.slice none 0 0, .slice none 0 0] 25 (g := w.heap.size + 1) (by simp))
  go_enter sqp.func44, sqp.ntmps44
  go_wp2_with fail
  refine (gluingOf_any _ r u hi _ (HX.out.keep (((Below.refl hi w).alloc ht _).alloc (by simp; omega) _) (Nat.le_refl _)) hn hm).mono ?_
  rintro e w1 ⟨rfl, b1⟩
  have A1 := Lib.hid ((N0.out _).keep b1 (by simp))
  have hs1 : w.heap.size + 2 ≤ w1.heap.size := by have := b1.size; simpa using this
  have B1 : Hid (Below w.heap.size w w1) := Lib.hid ((((Below.refl _ _).alloc (Nat.le_refl _) _).alloc (by simp) _).trans (b1.mono (by simp <;> omega))); clear b1 N0
  cases hq : transB r u
  · obtain ⟨z1, z2⟩ := ac_no (runN L) hq
    have Z1 := Lib.hid z1; have Z2 := Lib.hid z2; have HQ := Lib.hid hq; clear z1 z2
    go_wp2_with (first | (refine wpList_store_row rfl 62 _ _ rfl w1.heap.size (V (glv r u)).toArray rfl rfl 62 (V zero49).toArray (Arr.new w1 (V zero49) _ rfl) (size49 (glv_len _ _)) (by simp [V_len, glv_len, zero49]) (one_V _) ?_; generalize hw2 : (w1.alloc (.cells #[.int .i64 0, .int .i64 0, .int .i64 0, .int .i64 0, .int .i64 0, .int .i64 0, .int .i64 0, .int .i64 0, .int .i64 0, .int .i64 0, .int .i64 0, .int .i64 0, .int .i64 0, .int .i64 0, .int .i64 0, .int .i64 0, .int .i64 0, .int .i64 0, .int .i64 0, .int .i64 0, .int .i64 0, .int .i64 0, .int .i64 0, .int .i64 0, .int .i64 0, .int .i64 0, .int .i64 0, .int .i64 0, .int .i64 0, .int .i64 0, .int .i64 0, .int .i64 0, .int .i64 0, .int .i64 0, .int .i64 0, .int .i64 0, .int .i64 0, .int .i64 0, .int .i64 0, .int .i64 0, .int .i64 0, .int .i64 0, .int .i64 0, .int .i64 0, .int .i64 0, .int .i64 0, .int .i64 0, .int .i64 0, .int .i64 0] 62)).setRow w1.heap.size (V (glv r u)).toArray = w2; have A2 : Hid (Arr w2 w1.heap.size (V (glv r u)) 62) := Lib.hid (by rw [← hw2]; exact (Arr.new w1 (V zero49) _ rfl).row); have b1 : Below w1.heap.size w1 w2 := (by rw [← hw2]; exact arr.below_setRow ((Below.refl _ _).alloc (Nat.le_refl _) _) (Nat.le_refl _) _); have s2 := b1.size; replace A1 := Lib.hid (A1.out.keep b1 A1.out.lt); replace B1 : Hid (Below w.heap.size w w2) := Lib.hid (B1.out.trans (b1.mono B1.out.size)); clear hw2 b1) | (refine wpList_build rfl 25 _ rfl [] rfl _ built2 ?_) | (refine wpList_store_row rfl 25 _ _ rfl (w.heap.size + 1) #[.slice none 0 0, .slice none 0 0] rfl rfl 25 #[.slice none 0 0, .slice none 0 0] A1.out size2 rfl (by simp [Value.oneCell']) ?_))
    exact bodyPost_ret (v := .tuple #[.agg #[.slice none 0 0, .slice none 0 0], .bool false]) (permOf.results_cell_tmp rfl _ _ (w.heap.size + 1) 25 #[.slice none 0 0, .slice none 0 0] (0, 0) _ _ rfl rfl A1.out.row sqp.underlying25 rfl size2) rfl (sb_nil Z1.out Z2.out HQ.out (below_setRow B1.out (by omega) _))
  · obtain ⟨z1, z2⟩ := ac_yes (runN L) hq
    have Z1 := Lib.hid z1; have Z2 := Lib.hid z2; have HQ := Lib.hid hq; clear z1 z2
    have HS : Hid (Sf n r u) := Lib.hid (by have := transB_iff.1 hq; rwa [L1.out] at this)
    have HG : Hid (glv r u = gl (ext r) (ext u) n) := Lib.hid (by rw [glv_yes hq, L1.out])
    have hn24 : n ≤ 24 := by have := HS.out.r.len; rwa [L1.out] at this
    have HK := Lib.hid (runN_sf L (r, u) HS.out)
    clear hq
    go_wp2_with (first | (refine wpList_store_row rfl 62 _ _ rfl w1.heap.size (V (glv r u)).toArray rfl rfl 62 (V zero49).toArray (Arr.new w1 (V zero49) _ rfl) (size49 (glv_len _ _)) (by simp [V_len, glv_len, zero49]) (one_V _) ?_; generalize hw2 : (w1.alloc (.cells #[.int .i64 0, .int .i64 0, .int .i64 0, .int .i64 0, .int .i64 0, .int .i64 0, .int .i64 0, .int .i64 0, .int .i64 0, .int .i64 0, .int .i64 0, .int .i64 0, .int .i64 0, .int .i64 0, .int .i64 0, .int .i64 0, .int .i64 0, .int .i64 0, .int .i64 0, .int .i64 0, .int .i64 0, .int .i64 0, .int .i64 0, .int .i64 0, .int .i64 0, .int .i64 0, .int .i64 0, .int .i64 0, .int .i64 0, .int .i64 0, .int .i64 0, .int .i64 0, .int .i64 0, .int .i64 0, .int .i64 0, .int .i64 0, .int .i64 0, .int .i64 0, .int .i64 0, .int .i64 0, .int .i64 0, .int .i64 0, .int .i64 0, .int .i64 0, .int .i64 0, .int .i64 0, .int .i64 0, .int .i64 0, .int .i64 0] 62)).setRow w1.heap.size (V (glv r u)).toArray = w2; have A2 : Hid (Arr w2 w1.heap.size (V (glv r u)) 62) := Lib.hid (by rw [← hw2]; exact (Arr.new w1 (V zero49) _ rfl).row); have b1 : Below w1.heap.size w1 w2 := (by rw [← hw2]; exact arr.below_setRow ((Below.refl _ _).alloc (Nat.le_refl _) _) (Nat.le_refl _) _); have s2 := b1.size; replace A1 := Lib.hid (A1.out.keep b1 A1.out.lt); replace B1 : Hid (Below w.heap.size w w2) := Lib.hid (B1.out.trans (b1.mono B1.out.size)); clear hw2 b1; rw [HG.out] at A2) | (refine wpList_load_row rfl 62 _ rfl w1.heap.size rfl 62 (V (gl (ext r) (ext u) n)).toArray (0, 0) _ A2.out sqp.underlying62 rfl (size49 (gl_len (ext_len _) (ext_len _) _)) ?_) | fail)
    refine (after_any r u n A m c L hi' _ (HL.out.keep (B1.out.mono hh) (Nat.le_refl _)) (Nat.le_trans hh B1.out.size) H3.out HS.out h40).mono ?_
    rintro e w3 ⟨rfl, b1⟩
    replace A1 := Lib.hid (A1.out.keep b1 A1.out.lt)
    replace B1 := Lib.hid (B1.out.trans (b1.mono B1.out.size))
    have hs3 := b1.size
    clear b1 A2
    generalize runN L (r, u) = s3 at *
    obtain ⟨r3, u3⟩ := s3
    go_wp2_with fail
    refine (surface_any (ext r3) (ext u3) n _ (ext_len _) (ext_len _) hn24).mono ?_
    rintro e w6 ⟨g, rfl, sg, b1⟩
    have t1 : (ext r3).take n = r3 := by have := ext_take r3 (by rw [HK.out.lr]; exact hn24); rwa [HK.out.lr] at this
    have t2 : (ext u3).take n = u3 := by have := ext_take u3 (by rw [HK.out.lu]; exact hn24); rwa [HK.out.lu] at this
    rw [t1, t2] at sg
    obtain ⟨P3, c3, Q3, d3, rfl⟩ := sg.lens HK.out.lr HK.out.lu
    have hs6 := b1.size
    replace A1 := Lib.hid (A1.out.keep b1 A1.out.lt)
    replace B1 := Lib.hid (B1.out.trans (b1.mono B1.out.size))
    have SG := Lib.hid sg
    clear b1 sg t1 t2
    go_wp2_with (refine wpList_store_row rfl 25 _ _ rfl (w.heap.size + 1) #[.slice P3 n c3, .slice Q3 n d3] rfl rfl 25 #[.slice none 0 0, .slice none 0 0] A1.out size2 rfl (by simp [Value.oneCell']) ?_)
    exact bodyPost_ret (v := .tuple #[.agg #[.slice P3 n c3, .slice Q3 n d3], .bool true]) (permOf.results_cell_tmp rfl _ _ (w.heap.size + 1) 25 #[.slice P3 n c3, .slice Q3 n d3] (0, 0) _ _ rfl rfl A1.out.row sqp.underlying25 rfl size2) rfl (by
      rw [Z1.out, Z2.out, HQ.out]
      have := Svl.row SG.out (g := w.heap.size + 1) (by omega) #[.slice P3 n c3, .slice Q3 n d3]
      exact ⟨_, rfl, (by simpa using this.later (by omega)), below_setRow B1.out (by omega) _⟩)
end Go.Proofs.Ytgcnemkhppkkcaa.la

namespace Go.Proofs.Ytgcnemkhppkkcaa.rw
open Go.ChangeShapes Go.WideShapes Go.ChangeAt Go.RowKit
open mem ints arr pm permOk permOf inv fns sf gl mk lw la Go.Proofs.Ytgcnemkhppkkcaa.wd
set_option linter.unusedVariables false
set_option maxRecDepth 100000
def Bx (w wr : World) (B5 m : Nat) (r u : List Int) : Prop :=
  ∃ P c Q d l1 h1 l2 h2, Arr wr B5 [.slice P m c, .slice Q m d] 25 ∧ Row wr l1 h1 P m (V r) ∧ Row wr l2 h2 Q m (V u) ∧ m ≤ c ∧ m ≤ d ∧ w.heap.size + 2 ≤ l1 ∧ w.heap.size + 2 ≤ l2 ∧ (h1 ≤ l2 ∨ h2 ≤ l1) ∧
    (h1 ≤ B5 ∨ B5 < l1) ∧ (h2 ≤ B5 ∨ B5 < l2) ∧ w.heap.size + 2 ≤ B5 ∧ Arr wr (w.heap.size + 1) [.slice none 0 0, .slice none 0 0] 25 ∧ Below w.heap.size w wr
end Go.Proofs.Ytgcnemkhppkkcaa.rw

namespace Go.Proofs.Ytgcnemkhppkkcaa.orb
open Go.ChangeShapes Go.WideShapes Go.ChangeAt Go.RowKit
open mem ints arr pm sf
set_option linter.unusedVariables false
set_option maxRecDepth 100000
theorem infoSf : (sqp.prog.info? 25).map (fun i => (i.zero, i.size, i.bytes)) = some (some (.agg #[.slice none 0 0, .slice none 0 0]), 2, 48) := by kernel_rfl
def mid (k i : Nat) (q : LW) : LW := if i = 0 then q else if i = 1 then addL k 84 q else two k q
theorem mid_oi {N k i : Nat} {q : LW} (h : Oi N q) (hk : k < q.1.length) : Oi N (mid k i q) := by
  have h1 := h.add hk 84
  have h2 := h1.add (k := k) (by obtain ⟨r, e, _⟩ := addL_sub k 84 q; rw [e]; simp; omega) 83
  unfold mid two
  split
  · exact h
  · split
    · exact h1
    · exact h2
end Go.Proofs.Ytgcnemkhppkkcaa.orb

namespace Go.Proofs.Ytgcnemkhppkkcaa.orb
open Go.ChangeShapes Go.WideShapes Go.ChangeAt Go.RowKit Go.Joins Go.Deep
open mem ints arr pm sf mat
set_option linter.unusedVariables false
set_option maxRecDepth 100000
def Lo (w : World) (base hi : Nat) (v : Value) (L : List Sur) : Prop :=
  ∃ hs bl, w.ownsRow base 25 2 v L.length hs ∧ Ls w base hi (fun b => v.ownBlock = some b) bl hs L ∧ (∀ b, v.ownBlock = some b → b < hi)
theorem Os.lo {w0 w : World} {base hi : Nat} {v u : Value} {q : LW} (h : Os w0 w base hi v u q) : Lo w base hi v q.1 := by
  obtain ⟨hs, bl, o1, r⟩ := h.ex
  exact ⟨hs, bl, o1, r.to (Nat.le_refl _) (Nat.le_refl _) r.top (fun b _ _ e e' => e (.inl e')), h.vlt⟩
theorem Lo.nil (w : World) (base hi : Nat) (h : hi ≤ w.heap.size) : Lo w base hi (.slice none 0 0) [] :=
  ⟨[], fun _ => (0, 0), ⟨rfl, .inl ⟨rfl, rfl⟩⟩, Ls.nil _ _ _ _ _ h, fun b e => by simp [Value.ownBlock] at e⟩
theorem Lo.top {w : World} {base hi : Nat} {v : Value} {L : List Sur} (h : Lo w base hi v L) : hi ≤ w.heap.size := by
  obtain ⟨hs, bl, o1, r, _⟩ := h
  exact r.top
theorem Lo.keep {w w' : World} {base hi B : Nat} {v : Value} {L : List Sur} (h : Lo w base hi v L) (hb : Below B w w') (hB : hi ≤ B) : Lo w' base hi v L := by
  obtain ⟨hs, bl, o1, r, vl⟩ := h
  exact ⟨hs, bl, own_block_keep o1 (fun b e => hb.block b (Nat.lt_of_lt_of_le (vl b e) hB)), r.keep hb.size (fun b _ q2 _ => hb.block b (by omega)), vl⟩
theorem Lo.lrd {w : World} {base hi c : Nat} {A : Option Addr} {L : List Sur} (h : Lo w base hi (.slice A L.length c) L) : Lrd w w.heap.size (.slice A L.length c) L := by
  obtain ⟨hs, bl, o1, r, _⟩ := h
  exact (r.to (Nat.le_refl _) r.top (Nat.le_refl _) (fun _ _ _ q => q)).lrd o1
end Go.Proofs.Ytgcnemkhppkkcaa.orb

namespace Go.Proofs.Ytgcnemkhppkkcaa.orb
open Go.ChangeShapes Go.WideShapes Go.ChangeAt Go.RowKit
open mem ints arr pm sf
set_option linter.unusedVariables false
set_option maxRecDepth 100000
def orbF (r u : List Int) : Option LW := if transB r u then orb (r, u) else none
def orbL (r u : List Int) : List Sur := match orbF r u with | some q => q.1 | none => []
def orbB (r u : List Int) : Bool := (orbF r u).isSome
theorem orbL_some {r u : List Int} {q : LW} (h : orbF r u = some q) : orbL r u = q.1 ∧ orbB r u = true := by simp [orbL, orbB, h]
theorem orbL_none {r u : List Int} (h : orbF r u = none) : orbL r u = [] ∧ orbB r u = false := by simp [orbL, orbB, h]
theorem orbF_no {r u : List Int} (h : transB r u = false) : orbF r u = none := by simp [orbF, h]
theorem orbF_yes {r u : List Int} (h : transB r u = true) : orbF r u = orb (r, u) := by simp [orbF, h]
theorem orun_inv {N : Nat} : ∀ (f k : Nat) (q q' : LW), Oi N q → q.1.length ≤ 120 → orun f k q = some q' → Oi N q' ∧ q'.1.length ≤ 120
  | 0, k, q, q', _, _, h => by simp [orun] at h
  | f + 1, k, q, q', hq, hl, h => by
    unfold orun at h
    split at h
    · rename_i hk
      split at h
      · cases h
      · rename_i hs
        exact orun_inv f (k + 1) _ q' (by have := mid_oi (i := 2) hq hk; exact this) (by omega) h
    · injection h with h
      subst h
      exact ⟨hq, hl⟩
theorem orbF_inv {r u : List Int} {q : LW} (h : orbF r u = some q) : Sf r.length r u ∧ Oi r.length q ∧ q.1.length ≤ 120 := by
  unfold orbF at h
  split at h
  · rename_i ht
    have s := transB_iff.1 ht
    exact ⟨s, orun_inv 122 0 _ q (Oi.start s) (by simp) h⟩
  · cases h
theorem Lo.low {w : World} {base base' hi : Nat} {v : Value} {L : List Sur} (h : Lo w base hi v L) (hb : base' ≤ base) : Lo w base' hi v L := by
  obtain ⟨hs, bl, o1, r, vl⟩ := h
  refine ⟨hs, bl, ⟨o1.1, ?_⟩, r.to hb (Nat.le_refl _) r.top (fun _ _ _ q => q), vl⟩
  rcases o1.2 with q | ⟨g, cap, cur, q1, q2, q3⟩
  · exact .inl q
  · exact .inr ⟨g, cap, cur, q1, Nat.le_trans hb q2, q3⟩
theorem Lo.up {w : World} {base hi : Nat} {v : Value} {L : List Sur} (h : Lo w base hi v L) : Lo w base w.heap.size v L := by
  obtain ⟨hs, bl, o1, r, vl⟩ := h
  exact ⟨hs, bl, o1, r.to (Nat.le_refl _) r.top (Nat.le_refl _) (fun _ _ _ q => q), fun b e => Nat.lt_of_lt_of_le (vl b e) r.top⟩
def OOPost (r u : List Int) (w : World) (e : Ending) (w' : World) : Prop :=
  ∃ A c, e = .returned (.tuple #[.slice A (orbL r u).length c, .bool (orbB r u)]) ∧ Lo w' w.heap.size w'.heap.size (.slice A (orbL r u).length c) (orbL r u) ∧ Below w.heap.size w w'
theorem oo_no {r u : List Int} {w w' : World} (h : orbF r u = none) (hb : Below w.heap.size w w') : OOPost r u w (.returned (.tuple #[.slice none 0 0, .bool false])) w' := by
  obtain ⟨e1, e2⟩ := orbL_none h
  refine ⟨none, 0, by rw [e1, e2]; rfl, ?_, hb⟩
  rw [e1]
  exact Lo.nil _ _ _ (Nat.le_refl _)
def idxF (r u : List Int) : Int := if orbB r u then (orbL r u).length else -1
end Go.Proofs.Ytgcnemkhppkkcaa.orb

namespace Go.Proofs.Ytgcnemkhppkkcaa.orb
open Go.ChangeShapes Go.WideShapes Go.ChangeAt Go.RowKit
open mem ints arr pm sf
set_option linter.unusedVariables false
set_option maxRecDepth 100000
def soF (r u r' u' : List Int) : Bool := orbB r u && transB r' u' && decide (0 ≤ fnd (orbL r u) (cn (r', u')))
def owF (r u r' u' : List Int) : Option (List UInt8) :=
  if transB r u && transB r' u' then
    match orb (r, u) with
    | none => none
    | some q => if fnd q.1 (cn (r', u')) < 0 then none else if 40 < (q.2.getD (fnd q.1 (cn (r', u'))).toNat []).length then none else some (q.2.getD (fnd q.1 (cn (r', u'))).toNat [])
  else none
def owS (r u r' u' : List Int) : ByteArray := match owF r u r' u' with | some x => ⟨x.toArray⟩ | none => ⟨#[]⟩
def owB (r u r' u' : List Int) : Bool := (owF r u r' u').isSome
def OWPost (r u r' u' : List Int) (w : World) (e : Ending) (w' : World) : Prop := e = .returned (.tuple #[.string (owS r u r' u'), .bool (owB r u r' u')]) ∧ Below w.heap.size w w'
theorem ow_no {r u r' u' : List Int} {w w' : World} (h : owF r u r' u' = none) (hb : Below w.heap.size w w') : OWPost r u r' u' w (.returned (.tuple #[.string ⟨#[]⟩, .bool false])) w' := ⟨by simp [owS, owB, h], hb⟩
theorem ow_yes {r u r' u' : List Int} {x : List UInt8} {w w' : World} (h : owF r u r' u' = some x) (hb : Below w.heap.size w w') : OWPost r u r' u' w (.returned (.tuple #[.string ⟨x.toArray⟩, .bool true])) w' := ⟨by simp [owS, owB, h], hb⟩
end Go.Proofs.Ytgcnemkhppkkcaa.orb
