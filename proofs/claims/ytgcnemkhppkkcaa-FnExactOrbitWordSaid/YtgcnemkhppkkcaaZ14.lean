import Derived.Test.YtgcnemkhppkkcaaZ04
import Derived.Test.YtgcnemkhppkkcaaZ13
import Derived.Test.YtgcnemkhppkkcaaZ12
import Derived.Test.YtgcnemkhppkkcaaZ09
import Derived.Shelf.Abstract
import Derived.StillTailTactics
import Derived.Test.YtgcnemkhppkkcaaZ11
import Derived.Test.YtgcnemkhppkkcaaZ07
import Derived.Test.YtgcnemkhppkkcaaZ05
import Derived.Deep.AppendLies
namespace Go.Proofs.Ytgcnemkhppkkcaa.la
open Go.ChangeShapes Go.WideShapes Go.ChangeAt Go.RowKit
open mem ints arr pm permOk permOf inv fns sf gl mk lw
set_option linter.unusedVariables false
set_option maxRecDepth 100000
set_option maxHeartbeats 8000000 in
theorem lit1 (r u : List Int) (n : Nat) (w : World) (hs : Sf n r u) :
    Calls sqp.prog 129 #[.agg (V (gl (ext r) (ext u) n)).toArray] w fun e w' => e = .returned (.agg (V (gl (ext r) (ext (thn (Inv r) u)) n)).toArray) ∧ Below w.heap.size w w' := by
  have HS := Lib.hid hs
  have RS := Lib.hid hs.r.sq; have US := Lib.hid hs.u.sq
  have ER := Lib.hid (inv_ext hs.r); have EU := Lib.hid (inv_ext hs.u)
  clear hs
  go_enter sqp.func129, sqp.ntmps129
  go_wp2_with fail
  generalize hw1 : (w.alloc (.cells (V (gl (ext r) (ext u) n)).toArray 62)).alloc (.cells #[.int .i64 0, .int .i64 0, .int .i64 0, .int .i64 0, .int .i64 0, .int .i64 0, .int .i64 0, .int .i64 0, .int .i64 0, .int .i64 0, .int .i64 0, .int .i64 0, .int .i64 0, .int .i64 0, .int .i64 0, .int .i64 0, .int .i64 0, .int .i64 0, .int .i64 0, .int .i64 0, .int .i64 0, .int .i64 0, .int .i64 0, .int .i64 0, .int .i64 0, .int .i64 0, .int .i64 0, .int .i64 0, .int .i64 0, .int .i64 0, .int .i64 0, .int .i64 0, .int .i64 0, .int .i64 0, .int .i64 0, .int .i64 0, .int .i64 0, .int .i64 0, .int .i64 0, .int .i64 0, .int .i64 0, .int .i64 0, .int .i64 0, .int .i64 0, .int .i64 0, .int .i64 0, .int .i64 0, .int .i64 0, .int .i64 0] 62) = w1
  have A0 : Hid (Arr w1 w.heap.size (V (gl (ext r) (ext u) n)) 62) := Lib.hid (by rw [← hw1]; exact (Arr.new w _ _ rfl).alloc _)
  have A1 : Hid (Arr w1 (w.heap.size + 1) (V zero49) 62) := Lib.hid (by rw [← hw1]; exact Arr.new _ (V zero49) _ (by simp))
  have B1 : Hid (Below w.heap.size w w1) := Lib.hid (by rw [← hw1]; exact ((Below.refl _ _).alloc (Nat.le_refl _) _).alloc (by simp) _)
  have s1 : w1.heap.size = w.heap.size + 2 := by rw [← hw1]; simp
  clear hw1
  refine wp_region_held_drew (S := Hld w.heap.size w1.heap.size w1 [(w.heap.size, (V (gl (ext r) (ext u) n)))]) (by kernel_rfl) ((Hld.start1 A0.out).lower (by omega)) (fun hHeld => ?_)
  have b1 : Below w1.heap.size w1 w1.drew := ⟨rfl, rfl, rfl, Nat.le_refl _, fun _ _ => rfl⟩
  generalize w1.drew = w2 at *
  have s2 := b1.size
  replace A1 := Lib.hid (A1.out.keep b1 A1.out.lt)
  replace B1 := Lib.hid (B1.out.trans (b1.mono B1.out.size))
  clear b1 A0
  refine wpAnyH_take (i := 0) (v := .pointer (some ⟨w.heap.size, 0, none⟩)) rfl (by kernel_rfl) (by kernel_rfl) (by kernel_rfl) (fun _ _ _ h => h) (Or.inl ⟨by rfl, fun w hSw => by go_simp⟩) hHeld ?_
  refine wpAnyH_take (i := 2) (v := .pointer (some ⟨w.heap.size, 0, none⟩)) rfl (by kernel_rfl) (by kernel_rfl) (by kernel_rfl) (fun _ _ _ h => h) (Or.inl ⟨by rfl, fun w hSw => by go_simp⟩) hHeld ?_
  refine wpAnyH_take (i := 5) (v := .pointer (some ⟨w.heap.size, 24, none⟩)) rfl (by kernel_rfl) (by kernel_rfl) (by kernel_rfl) (fun _ _ _ h => h) (Or.inl ⟨by rfl, fun w hSw => by go_simp⟩) hHeld ?_
  refine wpAnyH_take (i := 8) (v := .pointer (some ⟨w.heap.size, 48, none⟩)) rfl (by kernel_rfl) (by kernel_rfl) (by kernel_rfl) (fun _ _ _ h => h) (Or.inl ⟨by rfl, fun w hSw => by go_simp⟩) hHeld ?_
  refine wpAnyH_take (i := 1) (v := .agg (V (ext r)).toArray) rfl (by kernel_rfl) (by kernel_rfl) (by kernel_rfl) (fun _ _ _ h => h) (yieldsIf_load_mid (by rfl) _ _ rfl (w.heap.size) 0 rfl (V (ext r)) _ (fun w h => rg_right (ext_len _) h.fst) sqp.underlying60 rfl (hi24 (ext_len _))) hHeld ?_
  refine wpAnyH_take (i := 3) (v := .agg (V (ext r)).toArray) rfl (by kernel_rfl) (by kernel_rfl) (by kernel_rfl) (fun _ _ _ h => h) (yieldsIf_load_mid (by rfl) _ _ rfl (w.heap.size) 0 rfl (V (ext r)) _ (fun w h => rg_right (ext_len _) h.fst) sqp.underlying60 rfl (hi24 (ext_len _))) hHeld ?_
  refine wpAnyH_take (i := 6) (v := .agg (V (ext u)).toArray) rfl (by kernel_rfl) (by kernel_rfl) (by kernel_rfl) (fun _ _ _ h => h) (yieldsIf_load_mid (by rfl) _ _ rfl (w.heap.size) 24 rfl (V (ext u)) _ (fun w h => rg_up (ext_len _) (ext_len _) h.fst) sqp.underlying60 rfl (hi24 (ext_len _))) hHeld ?_
  refine wpAnyH_take (i := 9) (v := .int .i64 n) rfl (by kernel_rfl) (by kernel_rfl) (by kernel_rfl) (fun _ _ _ h => h) (Or.inl ⟨by rfl, fun w hSw => by have := rg_count (ext_len _) (ext_len _) hSw.fst; go_simp⟩) hHeld ?_
  refine wpAnyH_ready (rs := [4]) (by kernel_rfl) (by simp) (AllReadyH.cons rfl (fun K hK => ?_) AllReadyH.nil)
  go_simp
  refine (inverse_any (ext r) _ RS.out).mono ?_
  rintro e w' ⟨rfl, b1⟩
  rw [ER.out]
  replace A1 := Lib.hid (A1.out.keep b1 A1.out.lt)
  replace B1 := Lib.hid (B1.out.trans (b1.mono B1.out.size))
  go_wp2_with fail
  have hHeld2 := hHeld.later b1 (by omega); clear b1 hHeld
  refine hK.out _ _ hHeld2 (fun hHeld => ?_)
  clear hK K hHeld2
  refine wpAnyH_ready (rs := [7]) (by kernel_rfl) (by simp) (AllReadyH.cons rfl (fun K hK => ?_) AllReadyH.nil)
  go_simp
  refine (inv.then_any (ext (Inv r)) (ext u) _ (Inv_ok HS.out.r).sq US.out).mono ?_
  rintro e w' ⟨rfl, b1⟩
  rw [thn_ext (Inv_ok HS.out.r) HS.out.u (by rw [Inv_len, HS.out.lr, HS.out.lu])]
  replace A1 := Lib.hid (A1.out.keep b1 A1.out.lt)
  replace B1 := Lib.hid (B1.out.trans (b1.mono B1.out.size))
  go_wp2_with fail
  have hHeld2 := hHeld.later b1 (by omega); clear b1 hHeld
  refine hK.out _ _ hHeld2 (fun hHeld => ?_)
  clear hK K hHeld2
  refine wpAnyH_ready (rs := [10]) (by kernel_rfl) (by simp) (AllReadyH.cons rfl (fun K hK => ?_) AllReadyH.nil)
  refine step_build rfl 62 _ rfl [(0, .agg (V (ext r)).toArray), (1, .agg (V (ext (thn (Inv r) u))).toArray), (2, .int .i64 n)] rfl (V (gl (ext r) (ext (thn (Inv r) u)) n)).toArray (built_gl (ext_len _) (ext_len _) n) ?_
  refine hK.out _ _ hHeld (fun hHeld2 => ?_)
  clear hK K hHeld2
  refine wpAnyH_ready (rs := [11]) (by kernel_rfl) (by simp) (AllReadyH.cons rfl (fun K hK => ?_) AllReadyH.nil)
  refine step_store_row rfl 62 _ _ rfl (w.heap.size + 1) (V (gl (ext r) (ext (thn (Inv r) u)) n)).toArray rfl rfl 62 (V zero49).toArray A1.out (size49 (gl_len (ext_len _) (ext_len _) n)) (by simp [V_len, gl_len, ext_len, zero49]) (one_V _) ?_
  refine hK.out _ _ (hHeld.other (by omega) (by simp) _) (fun hHeld2 => ?_)
  clear hK K hHeld2
  refine wpAnyH_done (by kernel_rfl) ?_ _
  go_wp2_with fail
  exact bodyPost_ret (v := .agg (V (gl (ext r) (ext (thn (Inv r) u)) n)).toArray) (results_cell_row rfl _ _ (w.heap.size + 1) 62 (V (gl (ext r) (ext (thn (Inv r) u)) n)).toArray (0, 0) _ rfl A1.out.row sqp.underlying62 rfl (size49 (gl_len (ext_len _) (ext_len _) n))) rfl ⟨rfl, below_setRow B1.out (by omega) _⟩
set_option maxHeartbeats 8000000 in
theorem lit2 (r u : List Int) (n : Nat) (w : World) (hs : Sf n r u) :
    Calls sqp.prog 130 #[.agg (V (gl (ext r) (ext u) n)).toArray] w fun e w' => e = .returned (.agg (V (gl (ext r) (ext (thn r u)) n)).toArray) ∧ Below w.heap.size w w' := by
  have HS := Lib.hid hs
  have RS := Lib.hid hs.r.sq; have US := Lib.hid hs.u.sq
  have ER := Lib.hid (inv_ext hs.r); have EU := Lib.hid (inv_ext hs.u)
  clear hs
  go_enter sqp.func130, sqp.ntmps130
  go_wp2_with fail
  generalize hw1 : (w.alloc (.cells (V (gl (ext r) (ext u) n)).toArray 62)).alloc (.cells #[.int .i64 0, .int .i64 0, .int .i64 0, .int .i64 0, .int .i64 0, .int .i64 0, .int .i64 0, .int .i64 0, .int .i64 0, .int .i64 0, .int .i64 0, .int .i64 0, .int .i64 0, .int .i64 0, .int .i64 0, .int .i64 0, .int .i64 0, .int .i64 0, .int .i64 0, .int .i64 0, .int .i64 0, .int .i64 0, .int .i64 0, .int .i64 0, .int .i64 0, .int .i64 0, .int .i64 0, .int .i64 0, .int .i64 0, .int .i64 0, .int .i64 0, .int .i64 0, .int .i64 0, .int .i64 0, .int .i64 0, .int .i64 0, .int .i64 0, .int .i64 0, .int .i64 0, .int .i64 0, .int .i64 0, .int .i64 0, .int .i64 0, .int .i64 0, .int .i64 0, .int .i64 0, .int .i64 0, .int .i64 0, .int .i64 0] 62) = w1
  have A0 : Hid (Arr w1 w.heap.size (V (gl (ext r) (ext u) n)) 62) := Lib.hid (by rw [← hw1]; exact (Arr.new w _ _ rfl).alloc _)
  have A1 : Hid (Arr w1 (w.heap.size + 1) (V zero49) 62) := Lib.hid (by rw [← hw1]; exact Arr.new _ (V zero49) _ (by simp))
  have B1 : Hid (Below w.heap.size w w1) := Lib.hid (by rw [← hw1]; exact ((Below.refl _ _).alloc (Nat.le_refl _) _).alloc (by simp) _)
  have s1 : w1.heap.size = w.heap.size + 2 := by rw [← hw1]; simp
  clear hw1
  refine wp_region_held_drew (S := Hld w.heap.size w1.heap.size w1 [(w.heap.size, (V (gl (ext r) (ext u) n)))]) (by kernel_rfl) ((Hld.start1 A0.out).lower (by omega)) (fun hHeld => ?_)
  have b1 : Below w1.heap.size w1 w1.drew := ⟨rfl, rfl, rfl, Nat.le_refl _, fun _ _ => rfl⟩
  generalize w1.drew = w2 at *
  have s2 := b1.size
  replace A1 := Lib.hid (A1.out.keep b1 A1.out.lt)
  replace B1 := Lib.hid (B1.out.trans (b1.mono B1.out.size))
  clear b1 A0
  refine wpAnyH_take (i := 0) (v := .pointer (some ⟨w.heap.size, 0, none⟩)) rfl (by kernel_rfl) (by kernel_rfl) (by kernel_rfl) (fun _ _ _ h => h) (Or.inl ⟨by rfl, fun w hSw => by go_simp⟩) hHeld ?_
  refine wpAnyH_take (i := 2) (v := .pointer (some ⟨w.heap.size, 0, none⟩)) rfl (by kernel_rfl) (by kernel_rfl) (by kernel_rfl) (fun _ _ _ h => h) (Or.inl ⟨by rfl, fun w hSw => by go_simp⟩) hHeld ?_
  refine wpAnyH_take (i := 4) (v := .pointer (some ⟨w.heap.size, 24, none⟩)) rfl (by kernel_rfl) (by kernel_rfl) (by kernel_rfl) (fun _ _ _ h => h) (Or.inl ⟨by rfl, fun w hSw => by go_simp⟩) hHeld ?_
  refine wpAnyH_take (i := 7) (v := .pointer (some ⟨w.heap.size, 48, none⟩)) rfl (by kernel_rfl) (by kernel_rfl) (by kernel_rfl) (fun _ _ _ h => h) (Or.inl ⟨by rfl, fun w hSw => by go_simp⟩) hHeld ?_
  refine wpAnyH_take (i := 1) (v := .agg (V (ext r)).toArray) rfl (by kernel_rfl) (by kernel_rfl) (by kernel_rfl) (fun _ _ _ h => h) (yieldsIf_load_mid (by rfl) _ _ rfl (w.heap.size) 0 rfl (V (ext r)) _ (fun w h => rg_right (ext_len _) h.fst) sqp.underlying60 rfl (hi24 (ext_len _))) hHeld ?_
  refine wpAnyH_take (i := 3) (v := .agg (V (ext r)).toArray) rfl (by kernel_rfl) (by kernel_rfl) (by kernel_rfl) (fun _ _ _ h => h) (yieldsIf_load_mid (by rfl) _ _ rfl (w.heap.size) 0 rfl (V (ext r)) _ (fun w h => rg_right (ext_len _) h.fst) sqp.underlying60 rfl (hi24 (ext_len _))) hHeld ?_
  refine wpAnyH_take (i := 5) (v := .agg (V (ext u)).toArray) rfl (by kernel_rfl) (by kernel_rfl) (by kernel_rfl) (fun _ _ _ h => h) (yieldsIf_load_mid (by rfl) _ _ rfl (w.heap.size) 24 rfl (V (ext u)) _ (fun w h => rg_up (ext_len _) (ext_len _) h.fst) sqp.underlying60 rfl (hi24 (ext_len _))) hHeld ?_
  refine wpAnyH_take (i := 8) (v := .int .i64 n) rfl (by kernel_rfl) (by kernel_rfl) (by kernel_rfl) (fun _ _ _ h => h) (Or.inl ⟨by rfl, fun w hSw => by have := rg_count (ext_len _) (ext_len _) hSw.fst; go_simp⟩) hHeld ?_
  refine wpAnyH_ready (rs := [6]) (by kernel_rfl) (by simp) (AllReadyH.cons rfl (fun K hK => ?_) AllReadyH.nil)
  go_simp
  refine (inv.then_any (ext r) (ext u) _ RS.out US.out).mono ?_
  rintro e w' ⟨rfl, b1⟩
  rw [thn_ext HS.out.r HS.out.u (by rw [HS.out.lr, HS.out.lu])]
  replace A1 := Lib.hid (A1.out.keep b1 A1.out.lt)
  replace B1 := Lib.hid (B1.out.trans (b1.mono B1.out.size))
  go_wp2_with fail
  have hHeld2 := hHeld.later b1 (by omega); clear b1 hHeld
  refine hK.out _ _ hHeld2 (fun hHeld => ?_)
  clear hK K hHeld2
  refine wpAnyH_ready (rs := [9]) (by kernel_rfl) (by simp) (AllReadyH.cons rfl (fun K hK => ?_) AllReadyH.nil)
  refine step_build rfl 62 _ rfl [(0, .agg (V (ext r)).toArray), (1, .agg (V (ext (thn r u))).toArray), (2, .int .i64 n)] rfl (V (gl (ext r) (ext (thn r u)) n)).toArray (built_gl (ext_len _) (ext_len _) n) ?_
  refine hK.out _ _ hHeld (fun hHeld2 => ?_)
  clear hK K hHeld2
  refine wpAnyH_ready (rs := [10]) (by kernel_rfl) (by simp) (AllReadyH.cons rfl (fun K hK => ?_) AllReadyH.nil)
  refine step_store_row rfl 62 _ _ rfl (w.heap.size + 1) (V (gl (ext r) (ext (thn r u)) n)).toArray rfl rfl 62 (V zero49).toArray A1.out (size49 (gl_len (ext_len _) (ext_len _) n)) (by simp [V_len, gl_len, ext_len, zero49]) (one_V _) ?_
  refine hK.out _ _ (hHeld.other (by omega) (by simp) _) (fun hHeld2 => ?_)
  clear hK K hHeld2
  refine wpAnyH_done (by kernel_rfl) ?_ _
  go_wp2_with fail
  exact bodyPost_ret (v := .agg (V (gl (ext r) (ext (thn r u)) n)).toArray) (results_cell_row rfl _ _ (w.heap.size + 1) 62 (V (gl (ext r) (ext (thn r u)) n)).toArray (0, 0) _ rfl A1.out.row sqp.underlying62 rfl (size49 (gl_len (ext_len _) (ext_len _) n))) rfl ⟨rfl, below_setRow B1.out (by omega) _⟩
set_option maxHeartbeats 8000000 in
theorem lit3 (r u : List Int) (n : Nat) (w : World) (hs : Sf n r u) :
    Calls sqp.prog 131 #[.agg (V (gl (ext r) (ext u) n)).toArray] w fun e w' => e = .returned (.agg (V (gl (ext (Inv u)) (ext r) n)).toArray) ∧ Below w.heap.size w w' := by
  have HS := Lib.hid hs
  have RS := Lib.hid hs.r.sq; have US := Lib.hid hs.u.sq
  have ER := Lib.hid (inv_ext hs.r); have EU := Lib.hid (inv_ext hs.u)
  clear hs
  go_enter sqp.func131, sqp.ntmps131
  go_wp2_with fail
  generalize hw1 : (w.alloc (.cells (V (gl (ext r) (ext u) n)).toArray 62)).alloc (.cells #[.int .i64 0, .int .i64 0, .int .i64 0, .int .i64 0, .int .i64 0, .int .i64 0, .int .i64 0, .int .i64 0, .int .i64 0, .int .i64 0, .int .i64 0, .int .i64 0, .int .i64 0, .int .i64 0, .int .i64 0, .int .i64 0, .int .i64 0, .int .i64 0, .int .i64 0, .int .i64 0, .int .i64 0, .int .i64 0, .int .i64 0, .int .i64 0, .int .i64 0, .int .i64 0, .int .i64 0, .int .i64 0, .int .i64 0, .int .i64 0, .int .i64 0, .int .i64 0, .int .i64 0, .int .i64 0, .int .i64 0, .int .i64 0, .int .i64 0, .int .i64 0, .int .i64 0, .int .i64 0, .int .i64 0, .int .i64 0, .int .i64 0, .int .i64 0, .int .i64 0, .int .i64 0, .int .i64 0, .int .i64 0, .int .i64 0] 62) = w1
  have A0 : Hid (Arr w1 w.heap.size (V (gl (ext r) (ext u) n)) 62) := Lib.hid (by rw [← hw1]; exact (Arr.new w _ _ rfl).alloc _)
  have A1 : Hid (Arr w1 (w.heap.size + 1) (V zero49) 62) := Lib.hid (by rw [← hw1]; exact Arr.new _ (V zero49) _ (by simp))
  have B1 : Hid (Below w.heap.size w w1) := Lib.hid (by rw [← hw1]; exact ((Below.refl _ _).alloc (Nat.le_refl _) _).alloc (by simp) _)
  have s1 : w1.heap.size = w.heap.size + 2 := by rw [← hw1]; simp
  clear hw1
  refine wp_region_held_drew (S := Hld w.heap.size w1.heap.size w1 [(w.heap.size, (V (gl (ext r) (ext u) n)))]) (by kernel_rfl) ((Hld.start1 A0.out).lower (by omega)) (fun hHeld => ?_)
  have b1 : Below w1.heap.size w1 w1.drew := ⟨rfl, rfl, rfl, Nat.le_refl _, fun _ _ => rfl⟩
  generalize w1.drew = w2 at *
  have s2 := b1.size
  replace A1 := Lib.hid (A1.out.keep b1 A1.out.lt)
  replace B1 := Lib.hid (B1.out.trans (b1.mono B1.out.size))
  clear b1 A0
  refine wpAnyH_take (i := 0) (v := .pointer (some ⟨w.heap.size, 24, none⟩)) rfl (by kernel_rfl) (by kernel_rfl) (by kernel_rfl) (fun _ _ _ h => h) (Or.inl ⟨by rfl, fun w hSw => by go_simp⟩) hHeld ?_
  refine wpAnyH_take (i := 3) (v := .pointer (some ⟨w.heap.size, 0, none⟩)) rfl (by kernel_rfl) (by kernel_rfl) (by kernel_rfl) (fun _ _ _ h => h) (Or.inl ⟨by rfl, fun w hSw => by go_simp⟩) hHeld ?_
  refine wpAnyH_take (i := 5) (v := .pointer (some ⟨w.heap.size, 48, none⟩)) rfl (by kernel_rfl) (by kernel_rfl) (by kernel_rfl) (fun _ _ _ h => h) (Or.inl ⟨by rfl, fun w hSw => by go_simp⟩) hHeld ?_
  refine wpAnyH_take (i := 1) (v := .agg (V (ext u)).toArray) rfl (by kernel_rfl) (by kernel_rfl) (by kernel_rfl) (fun _ _ _ h => h) (yieldsIf_load_mid (by rfl) _ _ rfl (w.heap.size) 24 rfl (V (ext u)) _ (fun w h => rg_up (ext_len _) (ext_len _) h.fst) sqp.underlying60 rfl (hi24 (ext_len _))) hHeld ?_
  refine wpAnyH_take (i := 4) (v := .agg (V (ext r)).toArray) rfl (by kernel_rfl) (by kernel_rfl) (by kernel_rfl) (fun _ _ _ h => h) (yieldsIf_load_mid (by rfl) _ _ rfl (w.heap.size) 0 rfl (V (ext r)) _ (fun w h => rg_right (ext_len _) h.fst) sqp.underlying60 rfl (hi24 (ext_len _))) hHeld ?_
  refine wpAnyH_take (i := 6) (v := .int .i64 n) rfl (by kernel_rfl) (by kernel_rfl) (by kernel_rfl) (fun _ _ _ h => h) (Or.inl ⟨by rfl, fun w hSw => by have := rg_count (ext_len _) (ext_len _) hSw.fst; go_simp⟩) hHeld ?_
  refine wpAnyH_ready (rs := [2]) (by kernel_rfl) (by simp) (AllReadyH.cons rfl (fun K hK => ?_) AllReadyH.nil)
  go_simp
  refine (inverse_any (ext u) _ US.out).mono ?_
  rintro e w' ⟨rfl, b1⟩
  rw [EU.out]
  replace A1 := Lib.hid (A1.out.keep b1 A1.out.lt)
  replace B1 := Lib.hid (B1.out.trans (b1.mono B1.out.size))
  go_wp2_with fail
  have hHeld2 := hHeld.later b1 (by omega); clear b1 hHeld
  refine hK.out _ _ hHeld2 (fun hHeld => ?_)
  clear hK K hHeld2
  refine wpAnyH_ready (rs := [7]) (by kernel_rfl) (by simp) (AllReadyH.cons rfl (fun K hK => ?_) AllReadyH.nil)
  refine step_build rfl 62 _ rfl [(0, .agg (V (ext (Inv u))).toArray), (1, .agg (V (ext r)).toArray), (2, .int .i64 n)] rfl (V (gl (ext (Inv u)) (ext r) n)).toArray (built_gl (ext_len _) (ext_len _) n) ?_
  refine hK.out _ _ hHeld (fun hHeld2 => ?_)
  clear hK K hHeld2
  refine wpAnyH_ready (rs := [8]) (by kernel_rfl) (by simp) (AllReadyH.cons rfl (fun K hK => ?_) AllReadyH.nil)
  refine step_store_row rfl 62 _ _ rfl (w.heap.size + 1) (V (gl (ext (Inv u)) (ext r) n)).toArray rfl rfl 62 (V zero49).toArray A1.out (size49 (gl_len (ext_len _) (ext_len _) n)) (by simp [V_len, gl_len, ext_len, zero49]) (one_V _) ?_
  refine hK.out _ _ (hHeld.other (by omega) (by simp) _) (fun hHeld2 => ?_)
  clear hK K hHeld2
  refine wpAnyH_done (by kernel_rfl) ?_ _
  go_wp2_with fail
  exact bodyPost_ret (v := .agg (V (gl (ext (Inv u)) (ext r) n)).toArray) (results_cell_row rfl _ _ (w.heap.size + 1) 62 (V (gl (ext (Inv u)) (ext r) n)).toArray (0, 0) _ rfl A1.out.row sqp.underlying62 rfl (size49 (gl_len (ext_len _) (ext_len _) n))) rfl ⟨rfl, below_setRow B1.out (by omega) _⟩
set_option maxHeartbeats 8000000 in
theorem lit4 (r u : List Int) (n : Nat) (w : World) (hs : Sf n r u) :
    Calls sqp.prog 132 #[.agg (V (gl (ext r) (ext u) n)).toArray] w fun e w' => e = .returned (.agg (V (gl (ext u) (ext (Inv r)) n)).toArray) ∧ Below w.heap.size w w' := by
  have HS := Lib.hid hs
  have RS := Lib.hid hs.r.sq; have US := Lib.hid hs.u.sq
  have ER := Lib.hid (inv_ext hs.r); have EU := Lib.hid (inv_ext hs.u)
  clear hs
  go_enter sqp.func132, sqp.ntmps132
  go_wp2_with fail
  generalize hw1 : (w.alloc (.cells (V (gl (ext r) (ext u) n)).toArray 62)).alloc (.cells #[.int .i64 0, .int .i64 0, .int .i64 0, .int .i64 0, .int .i64 0, .int .i64 0, .int .i64 0, .int .i64 0, .int .i64 0, .int .i64 0, .int .i64 0, .int .i64 0, .int .i64 0, .int .i64 0, .int .i64 0, .int .i64 0, .int .i64 0, .int .i64 0, .int .i64 0, .int .i64 0, .int .i64 0, .int .i64 0, .int .i64 0, .int .i64 0, .int .i64 0, .int .i64 0, .int .i64 0, .int .i64 0, .int .i64 0, .int .i64 0, .int .i64 0, .int .i64 0, .int .i64 0, .int .i64 0, .int .i64 0, .int .i64 0, .int .i64 0, .int .i64 0, .int .i64 0, .int .i64 0, .int .i64 0, .int .i64 0, .int .i64 0, .int .i64 0, .int .i64 0, .int .i64 0, .int .i64 0, .int .i64 0, .int .i64 0] 62) = w1
  have A0 : Hid (Arr w1 w.heap.size (V (gl (ext r) (ext u) n)) 62) := Lib.hid (by rw [← hw1]; exact (Arr.new w _ _ rfl).alloc _)
  have A1 : Hid (Arr w1 (w.heap.size + 1) (V zero49) 62) := Lib.hid (by rw [← hw1]; exact Arr.new _ (V zero49) _ (by simp))
  have B1 : Hid (Below w.heap.size w w1) := Lib.hid (by rw [← hw1]; exact ((Below.refl _ _).alloc (Nat.le_refl _) _).alloc (by simp) _)
  have s1 : w1.heap.size = w.heap.size + 2 := by rw [← hw1]; simp
  clear hw1
  refine wp_region_held_drew (S := Hld w.heap.size w1.heap.size w1 [(w.heap.size, (V (gl (ext r) (ext u) n)))]) (by kernel_rfl) ((Hld.start1 A0.out).lower (by omega)) (fun hHeld => ?_)
  have b1 : Below w1.heap.size w1 w1.drew := ⟨rfl, rfl, rfl, Nat.le_refl _, fun _ _ => rfl⟩
  generalize w1.drew = w2 at *
  have s2 := b1.size
  replace A1 := Lib.hid (A1.out.keep b1 A1.out.lt)
  replace B1 := Lib.hid (B1.out.trans (b1.mono B1.out.size))
  clear b1 A0
  refine wpAnyH_take (i := 0) (v := .pointer (some ⟨w.heap.size, 24, none⟩)) rfl (by kernel_rfl) (by kernel_rfl) (by kernel_rfl) (fun _ _ _ h => h) (Or.inl ⟨by rfl, fun w hSw => by go_simp⟩) hHeld ?_
  refine wpAnyH_take (i := 2) (v := .pointer (some ⟨w.heap.size, 0, none⟩)) rfl (by kernel_rfl) (by kernel_rfl) (by kernel_rfl) (fun _ _ _ h => h) (Or.inl ⟨by rfl, fun w hSw => by go_simp⟩) hHeld ?_
  refine wpAnyH_take (i := 5) (v := .pointer (some ⟨w.heap.size, 48, none⟩)) rfl (by kernel_rfl) (by kernel_rfl) (by kernel_rfl) (fun _ _ _ h => h) (Or.inl ⟨by rfl, fun w hSw => by go_simp⟩) hHeld ?_
  refine wpAnyH_take (i := 1) (v := .agg (V (ext u)).toArray) rfl (by kernel_rfl) (by kernel_rfl) (by kernel_rfl) (fun _ _ _ h => h) (yieldsIf_load_mid (by rfl) _ _ rfl (w.heap.size) 24 rfl (V (ext u)) _ (fun w h => rg_up (ext_len _) (ext_len _) h.fst) sqp.underlying60 rfl (hi24 (ext_len _))) hHeld ?_
  refine wpAnyH_take (i := 3) (v := .agg (V (ext r)).toArray) rfl (by kernel_rfl) (by kernel_rfl) (by kernel_rfl) (fun _ _ _ h => h) (yieldsIf_load_mid (by rfl) _ _ rfl (w.heap.size) 0 rfl (V (ext r)) _ (fun w h => rg_right (ext_len _) h.fst) sqp.underlying60 rfl (hi24 (ext_len _))) hHeld ?_
  refine wpAnyH_take (i := 6) (v := .int .i64 n) rfl (by kernel_rfl) (by kernel_rfl) (by kernel_rfl) (fun _ _ _ h => h) (Or.inl ⟨by rfl, fun w hSw => by have := rg_count (ext_len _) (ext_len _) hSw.fst; go_simp⟩) hHeld ?_
  refine wpAnyH_ready (rs := [4]) (by kernel_rfl) (by simp) (AllReadyH.cons rfl (fun K hK => ?_) AllReadyH.nil)
  go_simp
  refine (inverse_any (ext r) _ RS.out).mono ?_
  rintro e w' ⟨rfl, b1⟩
  rw [ER.out]
  replace A1 := Lib.hid (A1.out.keep b1 A1.out.lt)
  replace B1 := Lib.hid (B1.out.trans (b1.mono B1.out.size))
  go_wp2_with fail
  have hHeld2 := hHeld.later b1 (by omega); clear b1 hHeld
  refine hK.out _ _ hHeld2 (fun hHeld => ?_)
  clear hK K hHeld2
  refine wpAnyH_ready (rs := [7]) (by kernel_rfl) (by simp) (AllReadyH.cons rfl (fun K hK => ?_) AllReadyH.nil)
  refine step_build rfl 62 _ rfl [(0, .agg (V (ext u)).toArray), (1, .agg (V (ext (Inv r))).toArray), (2, .int .i64 n)] rfl (V (gl (ext u) (ext (Inv r)) n)).toArray (built_gl (ext_len _) (ext_len _) n) ?_
  refine hK.out _ _ hHeld (fun hHeld2 => ?_)
  clear hK K hHeld2
  refine wpAnyH_ready (rs := [8]) (by kernel_rfl) (by simp) (AllReadyH.cons rfl (fun K hK => ?_) AllReadyH.nil)
  refine step_store_row rfl 62 _ _ rfl (w.heap.size + 1) (V (gl (ext u) (ext (Inv r)) n)).toArray rfl rfl 62 (V zero49).toArray A1.out (size49 (gl_len (ext_len _) (ext_len _) n)) (by simp [V_len, gl_len, ext_len, zero49]) (one_V _) ?_
  refine hK.out _ _ (hHeld.other (by omega) (by simp) _) (fun hHeld2 => ?_)
  clear hK K hHeld2
  refine wpAnyH_done (by kernel_rfl) ?_ _
  go_wp2_with fail
  exact bodyPost_ret (v := .agg (V (gl (ext u) (ext (Inv r)) n)).toArray) (results_cell_row rfl _ _ (w.heap.size + 1) 62 (V (gl (ext u) (ext (Inv r)) n)).toArray (0, 0) _ rfl A1.out.row sqp.underlying62 rfl (size49 (gl_len (ext_len _) (ext_len _) n))) rfl ⟨rfl, below_setRow B1.out (by omega) _⟩
def fTab : List Value := [.func (.func 129) #[] #[], .func (.func 130) #[] #[], .func (.func 131) #[] #[], .func (.func 132) #[] #[]]
theorem sizeF : (sqp.prog.info? 135).map (·.size) = some fTab.toArray.size := by kernel_rfl
set_option maxHeartbeats 1000000 in
theorem acts_any (w : World) : Calls sqp.prog 96 #[] w fun e w' => e = .returned (.agg fTab.toArray) ∧ Below w.heap.size w w' := by
  go_enter sqp.func96, sqp.ntmps96
  go_wp2_with (refine wpList_store_row rfl 135 _ _ rfl w.heap.size fTab.toArray rfl rfl 135 #[.nilFunc, .nilFunc, .nilFunc, .nilFunc] (Arr.new w [.nilFunc, .nilFunc, .nilFunc, .nilFunc] _ rfl) sizeF rfl (by simp [fTab, Value.oneCell']) ?_)
  exact bodyPost_ret (v := .agg fTab.toArray) (results_cell_row rfl _ _ w.heap.size 135 fTab.toArray (0, 0) _ rfl (Arr.new w [.nilFunc, .nilFunc, .nilFunc, .nilFunc] 135 rfl).row sqp.underlying135 rfl sizeF) rfl ⟨rfl, below_setRow ((Below.refl _ _).alloc (Nat.le_refl _) _) (Nat.le_refl _) _⟩
def letN (z : Int) (s : Sur) : Sur := if z = 0 then shearS s else if z = 1 then unshearS s else if z = 2 then turnS s else unturnS s
def runN (L : List Int) (s : Sur) : Sur := L.foldl (fun s z => letN z s) s
theorem letN_sf {n : Nat} {R U : List Int} (s : Sf n R U) (z : Int) : Sf n (letN z (R, U)).1 (letN z (R, U)).2 := by
  unfold letN
  split
  · exact shear_sf s
  · split
    · exact unshear_sf s
    · split
      · exact turn_sf s
      · exact unturn_sf s
theorem runN_sf {n : Nat} : ∀ (L : List Int) (s : Sur), Sf n s.1 s.2 → Sf n (runN L s).1 (runN L s).2 := by
  intro L
  induction L with
  | nil => intro s h; exact h
  | cons c L ih => intro s h; exact ih (letN c s) (letN_sf (R := s.1) (U := s.2) h c)
theorem runN_take {L : List Int} {k : Nat} {x : Int} (hx : L[k]? = some x) (s : Sur) : runN (L.take (k + 1)) s = letN x (runN (L.take k) s) := by
  unfold runN
  rw [List.take_add_one, hx, List.foldl_append]
  rfl
theorem lit_any (z : Nat) (hz : z ≤ 3) (r u : List Int) (n : Nat) (w : World) (hs : Sf n r u) :
    ∃ f : Nat, fTab[z]? = some (.func (.func f) #[] #[]) ∧ (∀ args W, (callFunc f args).run sqp.prog W = .ok (.enter f args) W) ∧ Calls sqp.prog f #[.agg (V (gl (ext r) (ext u) n)).toArray] w fun e w' => e = .returned (.agg (V (gl (ext (letN (z : Int) (r, u)).1) (ext (letN (z : Int) (r, u)).2) n)).toArray) ∧ Below w.heap.size w w' := by
  match z, hz with
  | 0, _ => exact ⟨_, rfl, enters_of sqp.func129 (by kernel_rfl) rfl, lit1 r u n w hs⟩
  | 1, _ => exact ⟨_, rfl, enters_of sqp.func130 (by kernel_rfl) rfl, lit2 r u n w hs⟩
  | 2, _ => exact ⟨_, rfl, enters_of sqp.func131 (by kernel_rfl) rfl, lit3 r u n w hs⟩
  | 3, _ => exact ⟨_, rfl, enters_of sqp.func132 (by kernel_rfl) rfl, lit4 r u n w hs⟩
theorem still_take {P : Program} {ops : Array Oper} {w : World} {Q : Act → Prop} {a : Act} {o : Oper} {rest : List Oper} {v : Value} (hy : YieldsIf P ops (fun W => W = w) o v a) (h : wpStill P ops w Q rest (a.put o.dst v)) : wpStill P ops w Q (o :: rest) a := by
  unfold wpStill
  rcases hy with ⟨hw, hv⟩ | ⟨hw, rfl⟩
  · rw [if_pos hw]
    unfold Oper.still
    rw [hv w rfl, Oper.stillUpon_value]
    exact h
  · rw [if_neg (by rw [hw]; decide)]
    exact h
structure AR (w wr : World) (B5 : Nat) (p : List Int) : Prop where
  g : Arr wr w.heap.size (V p) 62
  res : Arr wr (w.heap.size + 1) (V zero49) 62
  tab : Arr wr B5 fTab 135
  hB : w.heap.size + 1 < B5
  bel : Below w.heap.size w wr
set_option maxHeartbeats 4000000 in
theorem after_any (r u : List Int) (n : Nat) (A : Option Addr) (m c : Nat) (L : List Int) (hi : Nat) (w : World) (hL : Rd w hi A m (V L)) (hh : hi ≤ w.heap.size) (h3 : ∀ l ∈ L, 0 ≤ l ∧ l ≤ 3) (hs : Sf n r u) (hm : m ≤ 40) :
    Calls sqp.prog 73 #[.agg (V (gl (ext r) (ext u) n)).toArray, .slice A m c] w fun e w' => e = .returned (.agg (V (gl (ext (runN L (r, u)).1) (ext (runN L (r, u)).2) n)).toArray) ∧ Below w.heap.size w w' := by
  have HS := Lib.hid hs; have HL := Lib.hid hL; have H3 := Lib.hid h3; have LL : Hid (L.length = m) := Lib.hid (by simpa [V] using hL.1)
  clear hs hL h3
  go_enter sqp.func73, sqp.ntmps73
  go_wp2_with fail
  generalize hw1 : (w.alloc (.cells (V (gl (ext r) (ext u) n)).toArray 62)).alloc (.cells #[.int .i64 0, .int .i64 0, .int .i64 0, .int .i64 0, .int .i64 0, .int .i64 0, .int .i64 0, .int .i64 0, .int .i64 0, .int .i64 0, .int .i64 0, .int .i64 0, .int .i64 0, .int .i64 0, .int .i64 0, .int .i64 0, .int .i64 0, .int .i64 0, .int .i64 0, .int .i64 0, .int .i64 0, .int .i64 0, .int .i64 0, .int .i64 0, .int .i64 0, .int .i64 0, .int .i64 0, .int .i64 0, .int .i64 0, .int .i64 0, .int .i64 0, .int .i64 0, .int .i64 0, .int .i64 0, .int .i64 0, .int .i64 0, .int .i64 0, .int .i64 0, .int .i64 0, .int .i64 0, .int .i64 0, .int .i64 0, .int .i64 0, .int .i64 0, .int .i64 0, .int .i64 0, .int .i64 0, .int .i64 0, .int .i64 0] 62) = w1
  have A0 : Hid (Arr w1 w.heap.size (V (gl (ext r) (ext u) n)) 62) := Lib.hid (by rw [← hw1]; exact (Arr.new w _ _ rfl).alloc _)
  have A1 : Hid (Arr w1 (w.heap.size + 1) (V zero49) 62) := Lib.hid (by rw [← hw1]; exact Arr.new _ (V zero49) _ (by simp))
  have B1 : Hid (Below w.heap.size w w1) := Lib.hid (by rw [← hw1]; exact ((Below.refl _ _).alloc (Nat.le_refl _) _).alloc (by simp) _)
  have s1 : w1.heap.size = w.heap.size + 2 := by rw [← hw1]; simp
  clear hw1
  refine (acts_any _).mono ?_
  rintro e w2 ⟨rfl, b1⟩
  have s2 := b1.size
  replace A0 := Lib.hid (A0.out.keep b1 A0.out.lt)
  replace A1 := Lib.hid (A1.out.keep b1 A1.out.lt)
  replace B1 := Lib.hid (B1.out.trans (b1.mono B1.out.size))
  clear b1
  go_wp2_with (refine wpList_store_row rfl 135 _ _ rfl w2.heap.size fTab.toArray rfl rfl 135 #[.nilFunc, .nilFunc, .nilFunc, .nilFunc] (Arr.new w2 [.nilFunc, .nilFunc, .nilFunc, .nilFunc] _ rfl) sizeF rfl (by simp [fTab, Value.oneCell']) ?_)
  generalize hw3 : (w2.alloc (.cells #[.nilFunc, .nilFunc, .nilFunc, .nilFunc] 135)).setRow w2.heap.size fTab.toArray = w3
  have A5 : Hid (Arr w3 w2.heap.size fTab 135) := Lib.hid (by rw [← hw3]; exact (Arr.new w2 [.nilFunc, .nilFunc, .nilFunc, .nilFunc] _ rfl).row)
  have b1 : Below w2.heap.size w2 w3 := by rw [← hw3]; exact below_setRow ((Below.refl _ _).alloc (Nat.le_refl _) _) (Nat.le_refl _) _
  clear hw3
  have hAR : AR w w3 w2.heap.size (gl (ext r) (ext u) n) := ⟨A0.out.keep b1 A0.out.lt, A1.out.keep b1 A1.out.lt, A5.out, by omega, B1.out.trans (b1.mono B1.out.size)⟩
  clear A0 A1 A5 B1 b1
  have HAR := Lib.hid hAR; clear hAR
  go_loopw [11] (fun i wr => ∃ k : Nat, k ≤ m ∧ i = .int .i64 k ∧ AR w wr w2.heap.size (gl (ext (runN (L.take k) (r, u)).1) (ext (runN (L.take k) (r, u)).2) n)) (fun i _ => m - (intOf i).toNat)
  case atStart => exact ⟨0, Nat.zero_le _, rfl, HAR.out⟩
  case round =>
    clear HAR
    obtain ⟨k, hk, rfl, hr⟩ := hrel
    have HR := Lib.hid hr; clear hr
    by_cases hlt : k < m
    · obtain ⟨x, hx⟩ : ∃ x, L[k]? = some x := ⟨L[k]'(by rw [LL.out]; exact hlt), List.getElem?_eq_getElem _⟩
      have h03 := H3.out x (List.mem_of_getElem? hx)
      obtain ⟨z, rfl⟩ := Int.eq_ofNat_of_zero_le h03.1
      have hz3 : z ≤ 3 := by have := h03.2; omega
      have ST := Lib.hid (runN_take hx (r, u))
      have SK := Lib.hid (runN_sf (L.take k) (r, u) HS.out)
      have RD := HL.out.keep HR.out.bel hh
      obtain ⟨go, oo, uo, rfl, hgo, huo, hco⟩ := RD.at_ hlt
      rw [V_get hx] at huo
      obtain rfl := Option.some.inj huo
      clear RD huo h03 hx
      obtain ⟨rk, hrk⟩ : ∃ q, q = runN (L.take k) (r, u) := ⟨_, rfl⟩
      rw [← hrk] at HR ST SK
      clear hrk
      obtain ⟨ru, uu⟩ := rk
      have hBw : w2.heap.size < wr.heap.size := HR.out.tab.lt
      have hB := HR.out.hB
      obtain ⟨f, hf, hen, hc⟩ := lit_any z hz3 ru uu n wr.drew SK.out
      have HC := Lib.hid hc; have HF := Lib.hid hf; have HE := Lib.hid hen; clear hf hc hen
      go_wp2_with fail
      refine wp_region_still_tail 4 (by kernel_rfl) (by kernel_rfl) ?_
      simp only [List.take_succ_cons, List.take_zero, List.drop_succ_cons, List.drop_zero]
      have b1 : Below wr.heap.size wr wr.drew := ⟨rfl, rfl, rfl, Nat.le_refl _, fun _ _ => rfl⟩
      change wpStill _ _ wr.drew _ _ _
      have AF : Hid (AR w wr.drew w2.heap.size (gl (ext ru) (ext uu) n)) := Lib.hid ⟨HR.out.g.keep b1 HR.out.g.lt, HR.out.res.keep b1 HR.out.res.lt, HR.out.tab.keep b1 HR.out.tab.lt, hB, HR.out.bel.trans (b1.mono HR.out.bel.size)⟩
      have s_ := b1.size
      generalize hw4 : wr.drew = w4 at *
      clear b1 HR
      refine still_take (v := .int .i64 (z : Int)) (Or.inl ⟨by rfl, fun w hSw => by go_simp⟩) ?_
      refine still_take (v := .pointer (some ⟨w2.heap.size, z, none⟩)) (Or.inl ⟨by rfl, fun w hSw => by go_simp; intro h4; exact absurd h4 (by omega)⟩) ?_
      refine still_take (v := .func (.func f) #[] #[]) (Or.inl ⟨by rfl, fun W hSw => by subst hSw; have hc := AF.out.tab.cell HF.out; go_simp⟩) ?_
      refine still_take (v := .agg (V (gl (ext ru) (ext uu) n)).toArray) (yieldsIf_load_mid (by rfl) _ _ rfl (w.heap.size) 0 rfl (V (gl (ext ru) (ext uu) n)) _ (fun W h => by subst h; exact fun j v hv => by rw [Nat.zero_add]; exact AF.out.g.cell hv) sqp.underlying62 rfl (hi49 (gl_len (ext_len _) (ext_len _) _))) ?_
      refine wpStill_nil ?_
      change wpList _ _ _ _ _ wr.drew
      rw [hw4]
      clear hw4
      have hE := HE.out
      go_wp2_with fail
      refine HC.out.mono ?_
      rintro e w5 ⟨rfl, b1⟩
      have s5 := b1.size
      have GL := Lib.hid (gl_len (ext_len (letN (z : Int) (ru, uu)).1) (ext_len (letN (z : Int) (ru, uu)).2) n)
      replace AF : Hid (AR w w5 w2.heap.size (gl (ext ru) (ext uu) n)) := Lib.hid ⟨AF.out.g.keep b1 AF.out.g.lt, AF.out.res.keep b1 AF.out.res.lt, AF.out.tab.keep b1 AF.out.tab.lt, hB, AF.out.bel.trans (b1.mono AF.out.bel.size)⟩
      clear b1 hE HE HC HF
      go_wp2_with (refine wpList_store_row rfl 62 _ _ rfl w.heap.size (V (gl (ext (letN (z : Int) (ru, uu)).1) (ext (letN (z : Int) (ru, uu)).2) n)).toArray rfl rfl 62 (V (gl (ext ru) (ext uu) n)).toArray AF.out.g (size49 GL.out) (by simp [V_len, GL.out, gl_len, ext_len]) (one_V _) ?_)
      have HN : Hid (AR w (w5.setRow w.heap.size (V (gl (ext (letN (z : Int) (ru, uu)).1) (ext (letN (z : Int) (ru, uu)).2) n)).toArray) w2.heap.size (gl (ext (runN (L.take (k + 1)) (r, u)).1) (ext (runN (L.take (k + 1)) (r, u)).2) n)) := Lib.hid (by
        rw [ST.out]
        exact ⟨AF.out.g.row, AF.out.res.rowOther (by omega), AF.out.tab.rowOther (by omega), hB, below_setRow AF.out.bel (Nat.le_refl _) _⟩)
      generalize w5.setRow w.heap.size (V (gl (ext (letN (z : Int) (ru, uu)).1) (ext (letN (z : Int) (ru, uu)).2) n)).toArray = w6 at *
      clear AF
      go_wp2_with fail
      go_roundw
      case rel => exact ⟨k + 1, by omega, by go_num, HN.out⟩
      case measure => simp [intOf]; omega
    · obtain rfl : k = m := by omega
      have e : L.take k = L := List.take_of_length_le (by rw [LL.out]; exact Nat.le_refl _)
      rw [e] at HR; clear e
      have GL := Lib.hid (gl_len (ext_len (runN L (r, u)).1) (ext_len (runN L (r, u)).2) n)
      go_wp2_with (first | (refine wpList_load_row rfl 62 _ rfl w.heap.size rfl 62 (V (gl (ext (runN L (r, u)).1) (ext (runN L (r, u)).2) n)).toArray (0, 0) _ HR.out.g sqp.underlying62 rfl (size49 GL.out) ?_) | (refine wpList_store_row rfl 62 _ _ rfl (w.heap.size + 1) (V (gl (ext (runN L (r, u)).1) (ext (runN L (r, u)).2) n)).toArray rfl rfl 62 (V zero49).toArray HR.out.res (size49 GL.out) (by simp [V_len, GL.out, zero49]) (one_V _) ?_))
      exact bodyPost_ret (v := .agg (V (gl (ext (runN L (r, u)).1) (ext (runN L (r, u)).2) n)).toArray) (results_cell_row rfl _ _ (w.heap.size + 1) 62 (V (gl (ext (runN L (r, u)).1) (ext (runN L (r, u)).2) n)).toArray (0, 0) _ rfl HR.out.res.row sqp.underlying62 rfl (size49 GL.out)) rfl ⟨rfl, below_setRow HR.out.bel (by omega) _⟩
end Go.Proofs.Ytgcnemkhppkkcaa.la

namespace Go.Proofs.Ytgcnemkhppkkcaa.orb
open Go.ChangeShapes Go.WideShapes Go.ChangeAt Go.RowKit
open mem ints arr pm sf
set_option linter.unusedVariables false
set_option maxRecDepth 100000
def Lrd (w : World) (hi : Nat) (v : Value) (L : List Sur) : Prop :=
  ∃ A n c, v = .slice A n c ∧ L.length = n ∧ n ≤ c ∧ hi ≤ w.heap.size ∧ (0 < n → ∃ g off, A = some ⟨g, off, none⟩ ∧ g < hi ∧
    ∀ (k : Nat) (s : Sur), L[k]? = some s → ∃ a b, w.cell? ⟨g, off + k * 2, none⟩ = some a ∧ w.cell? ⟨g, off + k * 2 + 1, none⟩ = some b ∧ Srd w hi (.agg #[a, b]) s.1 s.2)
theorem Lrd.keep {w w' : World} {hi B : Nat} {v : Value} {L : List Sur} (h : Lrd w hi v L) (hb : Below B w w') (hB : hi ≤ B) : Lrd w' hi v L := by
  obtain ⟨A, n, c, e, h1, h2, h3, h4⟩ := h
  refine ⟨A, n, c, e, h1, h2, Nat.le_trans h3 hb.size, fun hn => ?_⟩
  obtain ⟨g, off, q1, q2, q3⟩ := h4 hn
  refine ⟨g, off, q1, q2, fun k s hs => ?_⟩
  obtain ⟨a, b, c1, c2, c3⟩ := q3 k s hs
  exact ⟨a, b, by rw [hb.cell (p := ⟨g, off + k * 2, none⟩) (by show g < B; omega)]; exact c1, by rw [hb.cell (p := ⟨g, off + k * 2 + 1, none⟩) (by show g < B; omega)]; exact c2, c3.keep hb hB⟩
theorem Lrd.top {w : World} {hi : Nat} {v : Value} {L : List Sur} (h : Lrd w hi v L) : hi ≤ w.heap.size := by
  obtain ⟨A, n, c, e, h1, h2, h3, h4⟩ := h
  exact h3
theorem Lrd.at_ {w : World} {hi n c k : Nat} {A : Option Addr} {L : List Sur} (h : Lrd w hi (.slice A n c) L) (hk : k < n) :
    ∃ g off s P p cp Q q cq, A = some ⟨g, off, none⟩ ∧ g < hi ∧ L[k]? = some s ∧ w.cell? ⟨g, off + k * 2, none⟩ = some (.slice P p cp) ∧ w.cell? ⟨g, off + k * 2 + 1, none⟩ = some (.slice Q q cq) ∧ Srd w hi (.agg #[.slice P p cp, .slice Q q cq]) s.1 s.2 := by
  obtain ⟨A', n', c', e, h1, h2, h3, h4⟩ := h
  injection e with e1 e2 e3
  subst e1; subst e2; subst e3
  obtain ⟨g, off, q1, q2, q3⟩ := h4 (by omega)
  have hs := List.getElem?_eq_getElem (l := L) (i := k) (by omega)
  obtain ⟨a, b, c1, c2, c3⟩ := q3 k _ hs
  have c4 := c3
  obtain ⟨P, p, cp, Q, q, cq, e, _⟩ := c4
  simp at e
  obtain ⟨rfl, rfl⟩ := e
  exact ⟨g, off, _, P, p, cp, Q, q, cq, q1, q2, hs, c1, c2, c3⟩
def Rel (L : List Sur) (x : Sur) (w wr : World) (k : Nat) : Prop := Below w.heap.size w wr ∧ ∀ j, j < k → L[j]? ≠ some x
theorem same_eq {r u r' u' : List Int} : sameF r u r' u' = decide ((r, u) = (r', u')) := by
  unfold sameF eqi
  by_cases h1 : r = r' <;> by_cases h2 : u = u' <;> simp [h1, h2]
theorem Rel.step {L : List Sur} {x y : Sur} {w wr w' : World} {k : Nat} (h : Rel L x w wr k) (hb : Below w.heap.size w w') (hy : L[k]? = some y) (hne : sameF y.1 y.2 x.1 x.2 = false) : Rel L x w w' (k + 1) := by
  refine ⟨hb, fun j hj e => ?_⟩
  by_cases q : j = k
  · subst q
    rw [hy] at e
    injection e with e
    subst e
    rw [same_eq] at hne
    simp at hne
  · exact h.2 j (by omega) e
set_option maxHeartbeats 2000000 in
theorem find_spec (A : Option Addr) (n c : Nat) (L : List Sur) (v : Value) (x : Sur) (h1 h2 : Nat) (w : World) (hl : Lrd w h1 (.slice A n c) L) (hx : Srd w h2 v x.1 x.2)
    (hn : n ≤ 1048576) (hm : ∀ y ∈ L, y.1.length ≤ 1048576 ∧ y.2.length ≤ 1048576) (hx1 : x.1.length ≤ 1048576) (hx2 : x.2.length ≤ 1048576) :
    Calls sqp.prog 52 #[.slice A n c, v] w fun e w' => e = .returned (.int .i64 (fnd L x)) ∧ Below w.heap.size w w' := by
  have ln : L.length = n := by obtain ⟨A', n', c', e, h1, _⟩ := hl; injection e with e1 e2 e3; subst e2; exact h1
  have LN := Lib.hid ln; have HL := Lib.hid hl; have HM := Lib.hid hm; clear ln hl hm
  obtain ⟨P, p, cp, Q, q, cq, rfl, q1, q2, e1, e2⟩ := hx
  have HX : Hid (Srd w h2 (.agg #[.slice P p cp, .slice Q q cq]) x.1 x.2) := Lib.hid ⟨_, _, _, _, _, _, rfl, q1, q2, e1, e2⟩
  clear q1 q2
  go_enter sqp.func52, sqp.ntmps52
  go_wp2
  have A0 := Lib.hid (Arr.new w [.slice P p cp, .slice Q q cq] 25 rfl)
  have B0 := Lib.hid ((Below.refl w.heap.size w).alloc (Nat.le_refl _) (.cells #[.slice P p cp, .slice Q q cq] 25))
  have s0 : w.heap.size < (w.alloc (.cells #[.slice P p cp, .slice Q q cq] 25)).heap.size := by simp
  generalize w.alloc (.cells #[.slice P p cp, .slice Q q cq] 25) = w0 at *
  go_loopw [5, 6, 9] (fun _ _ i wr => ∃ k : Nat, k ≤ n ∧ i = .int .i64 k ∧ Rel L x w0 wr k) (fun _ _ i _ => n - (intOf i).toNat)
  case atStart => exact ⟨0, Nat.zero_le _, rfl, Below.refl _ _, fun j hj => by omega⟩
  case round =>
    obtain ⟨k, hk, rfl, hr⟩ := hrel
    have HR := Lib.hid hr; clear hr
    have hsz := HR.out.1.size
    by_cases hlt : k < n
    · obtain ⟨g, off, y, P', p', cp', Q', q', cq', rfl, hg, hy, c0, c1, hsr⟩ := (HL.out.keep (B0.out.mono HL.out.top) (Nat.le_refl _)).at_ hlt
      have hgw : g < w0.heap.size := Nat.lt_of_lt_of_le hg (Nat.le_trans HL.out.top (by omega))
      rw [← HR.out.1.cell (p := ⟨g, off + k * 2, none⟩) hgw] at c0
      rw [← HR.out.1.cell (p := ⟨g, off + k * 2 + 1, none⟩) hgw] at c1
      have YS := Lib.hid (hsr.keep HR.out.1 (Nat.le_trans HL.out.top (by omega)))
      have HY := Lib.hid hy; clear hsr hy
      have ZA := Lib.hid (A0.out.keep HR.out.1 A0.out.lt)
      have d0 := fun o => (ZA.out.alloc o).cell (k := 0) rfl; have d1 := fun o => (ZA.out.alloc o).cell (k := 1) rfl
      have hym := HM.out y (List.mem_of_getElem? HY.out)
      go_wp2_with fail
      refine (same_spec _ y.1 y.2 _ x.1 x.2 _ _ _ (YS.out.keep ((Below.refl wr.heap.size wr).alloc (Nat.le_refl _) _) YS.out.top)
        ((HX.out.keep (B0.out.mono HX.out.top) (Nat.le_refl _)).keep (HR.out.1.trans ((Below.refl w0.heap.size wr).alloc hsz _)) (Nat.le_trans HX.out.top (by omega))) hym.1 hym.2 hx1 hx2).mono ?_
      rintro e w2 ⟨rfl, b2⟩
      have B2 : Hid (Below w0.heap.size w0 w2) := Lib.hid (HR.out.1.trans (((Below.refl w0.heap.size wr).alloc hsz _).trans (b2.mono (by simp; omega))))
      clear b2 c0 c1 d0 d1 ZA YS
      cases hq : sameF y.1 y.2 x.1 x.2
      · have HQ := Lib.hid hq; clear hq
        go_wp2_with fail
        go_roundw
        case rel => exact ⟨k + 1, by omega, by go_num, HR.out.step B2.out HY.out HQ.out⟩
        case measure => simp [intOf]; omega
      · have HF : Hid (fnd L x = k) := Lib.hid (by
          rw [same_eq, decide_eq_true_iff] at hq
          exact fnd_at (by rw [HY.out]; exact congrArg some hq) HR.out.2)
        clear hq
        go_wp2_with fail
        go_ret
        exact ⟨ret_int HF.out.symm, B0.out.trans (B2.out.mono B0.out.size)⟩
    · obtain rfl : k = n := by omega
      have HF : Hid (fnd L x = -1) := Lib.hid (fnd_none (by rw [LN.out]; exact HR.out.2))
      go_wp2_with fail
      go_ret
      exact ⟨ret_int HF.out.symm, B0.out.trans (HR.out.1.mono B0.out.size)⟩
end Go.Proofs.Ytgcnemkhppkkcaa.orb

namespace Go.Proofs.Ytgcnemkhppkkcaa.orb
open Go.ChangeShapes Go.WideShapes Go.ChangeAt Go.RowKit
open mem ints arr pm sf
set_option linter.unusedVariables false
set_option maxRecDepth 100000
structure Rw1 (w : World) (lo hi : Nat) (ex : Nat → Prop) (b : Nat) (h : Value) (xs : List Int) : Prop where
  lo_ : lo ≤ b
  hi_ : b < hi
  ex_ : ¬ ex b
  row : ∃ P c, h = .slice P xs.length c ∧ xs.length ≤ c ∧ 0 < xs.length ∧ Row w b (b + 1) P xs.length (V xs)
structure Ls (w : World) (lo hi : Nat) (ex : Nat → Prop) (bl : Nat → Nat × Nat) (hs : List Value) (L : List Sur) : Prop where
  len : hs.length = L.length * 2
  top : hi ≤ w.heap.size
  row : ∀ (k : Nat) (s : Sur), L[k]? = some s → ∃ a b, hs[k * 2]? = some a ∧ hs[k * 2 + 1]? = some b ∧ Rw1 w lo hi ex (bl k).1 a s.1 ∧ Rw1 w lo hi ex (bl k).2 b s.2 ∧ (bl k).1 ≠ (bl k).2
  ne : ∀ i j, i < L.length → j < L.length → i ≠ j → (bl i).1 ≠ (bl j).1 ∧ (bl i).1 ≠ (bl j).2 ∧ (bl i).2 ≠ (bl j).2
theorem Rw1.keep {w w' : World} {lo hi : Nat} {ex : Nat → Prop} {b : Nat} {h : Value} {xs : List Int} (r : Rw1 w lo hi ex b h xs) (hb : w'.heap[b]? = w.heap[b]?) (hs : w.heap.size ≤ w'.heap.size) : Rw1 w' lo hi ex b h xs := by
  obtain ⟨P, c, e, h1, h2, h3⟩ := r.row
  exact ⟨r.lo_, r.hi_, r.ex_, P, c, e, h1, h2, mat.Row.block h3 hb hs⟩
theorem Rw1.to {w : World} {lo hi lo' hi' : Nat} {ex ex' : Nat → Prop} {b : Nat} {h : Value} {xs : List Int} (r : Rw1 w lo hi ex b h xs) (h1 : lo' ≤ lo) (h2 : hi ≤ hi') (he : ¬ ex' b) : Rw1 w lo' hi' ex' b h xs :=
  ⟨Nat.le_trans h1 r.lo_, Nat.lt_of_lt_of_le r.hi_ h2, he, r.row⟩
theorem Ls.keep {w w' : World} {lo hi : Nat} {ex : Nat → Prop} {bl : Nat → Nat × Nat} {hs : List Value} {L : List Sur} (h : Ls w lo hi ex bl hs L) (hz : w.heap.size ≤ w'.heap.size)
    (hk : ∀ b, lo ≤ b → b < hi → ¬ ex b → w'.heap[b]? = w.heap[b]?) : Ls w' lo hi ex bl hs L := by
  refine ⟨h.len, Nat.le_trans h.top hz, fun k s hs' => ?_, h.ne⟩
  obtain ⟨a, b, h1, h2, r1, r2, h3⟩ := h.row k s hs'
  exact ⟨a, b, h1, h2, r1.keep (hk _ r1.lo_ r1.hi_ r1.ex_) hz, r2.keep (hk _ r2.lo_ r2.hi_ r2.ex_) hz, h3⟩
theorem Ls.to {w : World} {lo hi lo' hi' : Nat} {ex ex' : Nat → Prop} {bl : Nat → Nat × Nat} {hs : List Value} {L : List Sur} (h : Ls w lo hi ex bl hs L) (h1 : lo' ≤ lo) (h2 : hi ≤ hi') (h3 : hi' ≤ w.heap.size)
    (he : ∀ b, lo ≤ b → b < hi → ¬ ex b → ¬ ex' b) : Ls w lo' hi' ex' bl hs L := by
  refine ⟨h.len, h3, fun k s hs' => ?_, h.ne⟩
  obtain ⟨a, b, q1, q2, r1, r2, q3⟩ := h.row k s hs'
  exact ⟨a, b, q1, q2, r1.to h1 h2 (he _ r1.lo_ r1.hi_ r1.ex_), r2.to h1 h2 (he _ r2.lo_ r2.hi_ r2.ex_), q3⟩
theorem Ls.nil (w : World) (lo hi : Nat) (ex : Nat → Prop) (bl : Nat → Nat × Nat) (h : hi ≤ w.heap.size) : Ls w lo hi ex bl [] [] :=
  ⟨rfl, h, fun k s hs => by simp at hs, fun i j hi => by simp at hi⟩
theorem Ls.snoc {w : World} {lo hi hi' : Nat} {ex : Nat → Prop} {bl : Nat → Nat × Nat} {hs : List Value} {L : List Sur} (h : Ls w lo hi ex bl hs L) {g1 g2 : Nat} {a b : Value} {s : Sur}
    (r1 : Rw1 w hi hi' ex g1 a s.1) (r2 : Rw1 w hi hi' ex g2 b s.2) (hne : g1 ≠ g2) (hlo : lo ≤ hi) (hh : hi ≤ hi') (ht : hi' ≤ w.heap.size) :
    Ls w lo hi' ex (fun i => if i = L.length then (g1, g2) else bl i) (hs ++ [a, b]) (L ++ [s]) := by
  have hl := h.len
  have old : ∀ i, i < L.length → (lo ≤ (bl i).1 ∧ (bl i).1 < hi) ∧ (lo ≤ (bl i).2 ∧ (bl i).2 < hi) := fun i hi => by
    obtain ⟨a, b, _, _, q1, q2, _⟩ := h.row i _ (List.getElem?_eq_getElem hi)
    exact ⟨⟨q1.lo_, q1.hi_⟩, ⟨q2.lo_, q2.hi_⟩⟩
  have n1 := r1.lo_; have n2 := r2.lo_
  refine ⟨by simp [hl]; omega, ht, fun k t hk => ?_, fun i j hi hj hij => ?_⟩
  · rw [List.getElem?_append] at hk
    by_cases hk' : k < L.length
    · rw [if_pos hk'] at hk
      obtain ⟨a', b', q1, q2, q3, q4, q5⟩ := h.row k t hk
      refine ⟨a', b', by rw [List.getElem?_append_left (by omega)]; exact q1, by rw [List.getElem?_append_left (by omega)]; exact q2, ?_⟩
      rw [if_neg (by omega)]
      exact ⟨q3.to (Nat.le_refl _) hh q3.ex_, q4.to (Nat.le_refl _) hh q4.ex_, q5⟩
    · rw [if_neg hk'] at hk
      have e0 : k = L.length := by
        rcases Nat.lt_or_ge (k - L.length) 1 with q | q
        · omega
        · rw [List.getElem?_eq_none (by simpa using q)] at hk; cases hk
      subst e0
      simp at hk
      subst hk
      refine ⟨a, b, by rw [List.getElem?_append_right (by omega), hl]; simp, by rw [List.getElem?_append_right (by omega), hl]; simp, ?_⟩
      rw [if_pos rfl]
      exact ⟨r1.to hlo (Nat.le_refl _) r1.ex_, r2.to hlo (Nat.le_refl _) r2.ex_, hne⟩
  · simp at hi hj
    by_cases e1 : i = L.length
    · have e2 : ¬ j = L.length := by omega
      have := old j (by omega)
      simp only [if_pos e1, if_neg e2]
      omega
    · by_cases e2 : j = L.length
      · have := old i (by omega)
        simp only [if_pos e2, if_neg e1]
        omega
      · simp only [if_neg e1, if_neg e2]
        exact h.ne i j (by omega) (by omega) hij
theorem Ls.srd {w : World} {lo hi : Nat} {ex : Nat → Prop} {bl : Nat → Nat × Nat} {hs : List Value} {L : List Sur} (h : Ls w lo hi ex bl hs L) {k : Nat} {s : Sur} (hs' : L[k]? = some s) :
    ∃ a b, hs[k * 2]? = some a ∧ hs[k * 2 + 1]? = some b ∧ Srd w hi (.agg #[a, b]) s.1 s.2 := by
  obtain ⟨a, b, h1, h2, r1, r2, _⟩ := h.row k s hs'
  obtain ⟨P, c, e1, c1, p1, w1⟩ := r1.row
  obtain ⟨Q, d, e2, c2, p2, w2⟩ := r2.row
  subst e1; subst e2
  have q1 := r1.hi_; have q2 := r2.hi_; have q3 := h.top
  exact ⟨_, _, h1, h2, P, _, c, Q, _, d, rfl, sf.Rd.wider w1.rd (by omega) q3, sf.Rd.wider w2.rd (by omega) q3, c1, c2⟩
theorem add0 (g j : Nat) : (⟨g, 0, none⟩ : Addr).add j = ⟨g, 0 + j, none⟩ := by unfold Addr.add; split <;> simp_all
theorem Ls.lrd {w : World} {lo : Nat} {ex : Nat → Prop} {bl : Nat → Nat × Nat} {hs : List Value} {L : List Sur} (h : Ls w lo w.heap.size ex bl hs L) {base c : Nat} {e : TypeId} {A : Option Addr}
    (ho : w.ownsRow base e 2 (.slice A L.length c) L.length hs) : Lrd w w.heap.size (.slice A L.length c) L := by
  rcases ho.2 with ⟨q, q0⟩ | ⟨g, cap, cur, q, hb, hh, hc, _, hz, ht⟩
  · injection q with q1 q2 q3
    exact ⟨A, L.length, c, rfl, rfl, by omega, Nat.le_refl _, fun hn => by omega⟩
  · have hlt : g < w.heap.size := by
      rcases Nat.lt_or_ge g w.heap.size with hl | hl
      · exact hl
      · rw [Array.getElem?_eq_none hl] at hh; cases hh
    injection q with q1 q2 q3
    subst q1; subst q3
    have cell : ∀ (j : Nat) (u : Value), hs[j]? = some u → w.cell? ⟨g, 0 + j, none⟩ = some u := fun j u hu => by
      have := ho.cells (g := g) rfl j u hu
      rwa [add0] at this
    refine ⟨_, L.length, c, rfl, rfl, hc, Nat.le_refl _, fun hn => ⟨g, 0, rfl, hlt, fun k s hs' => ?_⟩⟩
    obtain ⟨a, b, h1, h2, h3⟩ := h.srd hs'
    exact ⟨a, b, cell _ _ h1, by rw [Nat.add_assoc]; exact cell _ _ h2, h3⟩
theorem Svl.two {w : World} {lo hi : Nat} {P Q : Option Addr} {n c m d : Nat} {s : Sur} (h : Svl w lo hi (.agg #[.slice P n c, .slice Q m d]) s.1 s.2) (hn : 0 < n) (hm : 0 < m) (ex : Nat → Prop) (he : ∀ b, lo ≤ b → b < hi → ¬ ex b) :
    ∃ g1 g2, Rw1 w lo hi ex g1 (.slice P n c) s.1 ∧ Rw1 w lo hi ex g2 (.slice Q m d) s.2 ∧ g1 ≠ g2 := by
  obtain ⟨P', n', c', Q', m', d', l1, h1, l2, h2, e, a, b, e1, e2, f1, f2, f3, f4, f5, f6⟩ := h
  simp at e
  obtain ⟨⟨rfl, rfl, rfl⟩, rfl, rfl, rfl⟩ := e
  have L1 : s.1.length = n := by simpa [V] using a.1
  have L2 : s.2.length = m := by simpa [V] using b.1
  subst L1; subst L2
  obtain ⟨g1, o1, q1, q2, q3, q4⟩ := a.2.2 hn
  obtain ⟨g2, o2, p1, p2, p3, p4⟩ := b.2.2 hm
  refine ⟨g1, g2, ⟨by omega, by omega, he _ (by omega) (by omega), P, c, rfl, e1, hn, a.1, by omega, fun _ => ⟨g1, o1, q1, Nat.le_refl _, by omega, q4⟩⟩,
    ⟨by omega, by omega, he _ (by omega) (by omega), Q, d, rfl, e2, hm, b.1, by omega, fun _ => ⟨g2, o2, p1, Nat.le_refl _, by omega, p4⟩⟩, by omega⟩
structure Os (w0 w : World) (base hi : Nat) (v u : Value) (q : LW) : Prop where
  ex : ∃ hs bl, w.ownsRow base 25 2 v q.1.length hs ∧ Ls w base hi (fun b => v.ownBlock = some b ∨ u.ownBlock = some b) bl hs q.1
  own : w.ownsRow base 9 1 u q.2.length (q.2.map fun x => Value.string ⟨x.toArray⟩)
  sep : ∀ b, v.ownBlock = some b → ¬ u.ownBlock = some b
  vlt : ∀ b, v.ownBlock = some b → b < hi
  ult : ∀ b, u.ownBlock = some b → b < hi
  bel : Below base w0 w
  low : base ≤ hi
  top : hi ≤ w.heap.size
theorem own_block_keep {w w' : World} {base : Nat} {e : TypeId} {size n : Nat} {v : Value} {xs : List Value} (h : w.ownsRow base e size v n xs) (hb : ∀ b, v.ownBlock = some b → w'.heap[b]? = w.heap[b]?) : w'.ownsRow base e size v n xs := by
  refine ⟨h.1, ?_⟩
  rcases h.2 with q | ⟨g, cap, cur, q1, q2, q3, q4⟩
  · exact .inl q
  · exact .inr ⟨g, cap, cur, q1, q2, by rw [hb g (by rw [q1]; rfl)]; exact q3, q4⟩
theorem Os.keep {w0 w w' : World} {base hi B : Nat} {v u : Value} {q : LW} (h : Os w0 w base hi v u q) (hb : Below B w w') (hB : hi ≤ B) : Os w0 w' base hi v u q := by
  obtain ⟨hs, bl, o1, r⟩ := h.ex
  exact ⟨⟨hs, bl, own_block_keep o1 (fun b e => hb.block b (Nat.lt_of_lt_of_le (h.vlt b e) hB)), r.keep hb.size (fun b _ q2 _ => hb.block b (by omega))⟩,
    own_block_keep h.own (fun b e => hb.block b (Nat.lt_of_lt_of_le (h.ult b e) hB)), h.sep, h.vlt, h.ult, h.bel.trans (hb.mono (Nat.le_trans h.low hB)), h.low, Nat.le_trans h.top hb.size⟩
theorem Os.up {w0 w : World} {base hi : Nat} {v u : Value} {q : LW} (h : Os w0 w base hi v u q) : Os w0 w base w.heap.size v u q := by
  obtain ⟨hs, bl, o1, r⟩ := h.ex
  exact ⟨⟨hs, bl, o1, r.to (Nat.le_refl _) h.top (Nat.le_refl _) (fun _ _ _ q => q)⟩, h.own, h.sep, fun b e => Nat.lt_of_lt_of_le (h.vlt b e) h.top, fun b e => Nat.lt_of_lt_of_le (h.ult b e) h.top, h.bel, Nat.le_trans h.low h.top, Nat.le_refl _⟩
theorem Os.forms {w0 w : World} {base hi : Nat} {v u : Value} {q : LW} (h : Os w0 w base hi v u q) : ∃ A c B d, v = .slice A q.1.length c ∧ u = .slice B q.2.length d := by
  obtain ⟨hs, bl, o1, r⟩ := h.ex
  obtain ⟨A, c, e1⟩ := mem.own_form o1
  obtain ⟨B, d, e2⟩ := mem.own_form h.own
  exact ⟨A, c, B, d, e1, e2⟩
theorem Os.lrd {w0 w : World} {base hi c : Nat} {A : Option Addr} {u : Value} {q : LW} (h : Os w0 w base hi (.slice A q.1.length c) u q) : Lrd w w.heap.size (.slice A q.1.length c) q.1 := by
  obtain ⟨hs, bl, o1, r⟩ := h.up.ex
  exact r.lrd o1
theorem Os.push {w0 w W w' : World} {base hi lo g cap : Nat} {v u : Value} {q : LW} {s : Sur} {P Q : Option Addr} {n c m d k : Nat} {hs : List Value} {bl : Nat → Nat × Nat} (h : Os w0 w base hi v u q)
    (r : Ls w base hi (fun b => v.ownBlock = some b ∨ u.ownBlock = some b) bl hs q.1)
    (hx : Svl w lo w.heap.size (.agg #[.slice P n c, .slice Q m d]) s.1 s.2) (hn : 0 < n) (hm : 0 < m) (hlo : hi ≤ lo) (hW : Below w.heap.size w W) (hk : k = q.1.length)
    (ho : w'.ownsRow base 25 2 (.slice (some ⟨g, 0, none⟩) (k + 1) cap) (k + 1) (hs ++ [.slice P n c, .slice Q m d])) (hg : W.grownBy w' v.ownBlock) (hb : v.ownBlock = some g ∨ g = W.heap.size) (hlt : g < w'.heap.size) :
    Os w0 w' base w'.heap.size (.slice (some ⟨g, 0, none⟩) (k + 1) cap) u (q.1 ++ [s], q.2) := by
  subst hk
  have hz : w.heap.size ≤ w'.heap.size := Nat.le_trans hW.size hg.size
  have t1 := h.top; have t2 := hW.size; have t3 := hg.size
  have far : ∀ b, b < w.heap.size → ¬ v.ownBlock = some b → w'.heap[b]? = w.heap[b]? := fun b hb1 hb2 => (hg.block b (by omega) (fun e => hb2 e.symm)).trans (hW.block b hb1)
  obtain ⟨g1, g2, r1, r2, hne⟩ := Svl.two hx hn hm (fun b => v.ownBlock = some b ∨ u.ownBlock = some b) (fun b b1 b2 e => by
    rcases e with e | e
    · have := h.vlt b e; omega
    · have := h.ult b e; omega)
  have L1 := r.keep hz (fun b q1 q2 q3 => far b (by omega) (fun e => q3 (.inl e)))
  have R1 := (r1.keep (far _ r1.hi_ (fun e => r1.ex_ (.inl e))) hz).to (ex' := fun b => v.ownBlock = some b ∨ u.ownBlock = some b) hlo (Nat.le_refl _) r1.ex_
  have R2 := (r2.keep (far _ r2.hi_ (fun e => r2.ex_ (.inl e))) hz).to (ex' := fun b => v.ownBlock = some b ∨ u.ownBlock = some b) hlo (Nat.le_refl _) r2.ex_
  have L2 := L1.snoc R1 R2 hne h.low (by omega) hz
  have hgb : ∀ b, b < w.heap.size → g = b → v.ownBlock = some b := fun b hb1 e => by
    rcases hb with q | q
    · rw [q, e]
    · omega
  refine ⟨⟨_, _, by simpa using ho, L2.to (Nat.le_refl _) hz (Nat.le_refl _) (fun b b1 b2 e e' => ?_)⟩, own_block_keep h.own (fun b e => far b (by have := h.ult b e; omega) (fun e' => h.sep b e' e)), fun b e e' => ?_, fun b e => ?_, fun b e => by have := h.ult b e; omega, ?_, by have := h.low; omega, Nat.le_refl _⟩
  · rcases e' with e' | e'
    · have e2 : g = b := by simpa [Value.ownBlock] using e'
      rcases hb with q | q
      · exact e (.inl (by rw [q, e2]))
      · subst e2
        omega
    · exact e (.inr e')
  · have e2 : g = b := by simpa [Value.ownBlock] using e
    have hb1 : b < w.heap.size := by have := h.ult b e'; omega
    exact h.sep b (hgb b hb1 e2) e'
  · have e2 : g = b := by simpa [Value.ownBlock] using e
    omega
  · exact h.bel.trans ⟨hg.os.trans hW.os, hg.tape.trans hW.tape, hg.output.trans hW.output, hz, fun b hb1 => far b (by have := h.low; omega) (fun e => by
      obtain ⟨hs', bl', o1, _⟩ := h.ex
      have := (o1.lt b e).1
      omega)⟩
theorem Os.pushW {w0 w W w' : World} {base hi g cap k : Nat} {v u : Value} {q : LW} {x : List UInt8} (h : Os w0 w base hi v u q) (hW : Below w.heap.size w W) (hk : k = q.2.length)
    (ho : w'.ownsRow base 9 1 (.slice (some ⟨g, 0, none⟩) (k + 1) cap) (k + 1) ((q.2.map fun x => Value.string ⟨x.toArray⟩) ++ [.string ⟨x.toArray⟩])) (hg : W.grownBy w' u.ownBlock) (hb : u.ownBlock = some g ∨ g = W.heap.size) (hlt : g < w'.heap.size) :
    Os w0 w' base w'.heap.size v (.slice (some ⟨g, 0, none⟩) (k + 1) cap) (q.1, q.2 ++ [x]) := by
  subst hk
  obtain ⟨hs, bl, o1, r⟩ := h.ex
  have hz : w.heap.size ≤ w'.heap.size := Nat.le_trans hW.size hg.size
  have t1 := h.top; have t2 := hW.size; have t3 := hg.size
  have far : ∀ b, b < w.heap.size → ¬ u.ownBlock = some b → w'.heap[b]? = w.heap[b]? := fun b hb1 hb2 => (hg.block b (by omega) (fun e => hb2 e.symm)).trans (hW.block b hb1)
  have L1 := r.keep hz (fun b q1 q2 q3 => far b (by omega) (fun e => q3 (.inr e)))
  have hgb : ∀ b, b < w.heap.size → g = b → u.ownBlock = some b := fun b hb1 e => by
    rcases hb with q | q
    · rw [q, e]
    · omega
  refine ⟨⟨_, _, own_block_keep o1 (fun b e => far b (by have := h.vlt b e; omega) (fun e' => h.sep b e e')), L1.to (Nat.le_refl _) (by omega) (Nat.le_refl _) (fun b b1 b2 e e' => ?_)⟩, by simpa using ho, fun b e e' => ?_, fun b e => by have := h.vlt b e; omega, fun b e => ?_, ?_, by have := h.low; omega, Nat.le_refl _⟩
  · rcases e' with e' | e'
    · exact e (.inl e')
    · have e2 : g = b := by simpa [Value.ownBlock] using e'
      exact e (.inr (hgb b (by omega) e2))
  · have e2 : g = b := by simpa [Value.ownBlock] using e'
    have hb1 : b < w.heap.size := by have := h.vlt b e; omega
    exact h.sep b e (hgb b hb1 e2)
  · have e2 : g = b := by simpa [Value.ownBlock] using e
    omega
  · exact h.bel.trans ⟨hg.os.trans hW.os, hg.tape.trans hW.tape, hg.output.trans hW.output, hz, fun b hb1 => far b (by have := h.low; omega) (fun e => by
      have := (h.own.lt b e).1
      omega)⟩
theorem Os.word {w0 w : World} {base hi m d k : Nat} {v : Value} {B : Option Addr} {q : LW} {x : List UInt8} (h : Os w0 w base hi v (.slice B m d) q) (hx : q.2[k]? = some x) :
    ∃ g, B = some ⟨g, 0, none⟩ ∧ w.cell? ⟨g, 0 + k, none⟩ = some (.string ⟨x.toArray⟩) ∧ g < hi := by
  rcases h.own.2 with ⟨e, e0⟩ | ⟨g, cap, cur, e, _⟩
  · have := (List.getElem?_eq_some_iff.1 hx).1
    omega
  · injection e with e1 e2 e3
    subst e1; subst e2
    have := h.own.cells (g := g) rfl k (.string ⟨x.toArray⟩) (by simp [hx])
    rw [add0] at this
    exact ⟨g, rfl, this, h.ult g rfl⟩
end Go.Proofs.Ytgcnemkhppkkcaa.orb
