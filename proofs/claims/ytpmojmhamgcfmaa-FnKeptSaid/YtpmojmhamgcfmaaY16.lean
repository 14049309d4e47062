import Derived.Test.YtpmojmhamgcfmaaY15
import Derived.Test.YtpmojmhamgcfmaaY08
import Derived.Test.YtpmojmhamgcfmaaY13
import Derived.Shelf.Abstract
import Derived.StillTailTactics
/-
  The program's letters: the function literals of its table, each on a gluing.
-/
namespace Go.Proofs.Ytpmojmhamgcfmaa.la
open Go.ChangeShapes Go.WideShapes Go.ChangeAt Go.RowKit
open Go.Proofs.Ytpmojmhamgcfmaa.mem Go.Proofs.Ytpmojmhamgcfmaa.ints Go.Proofs.Ytpmojmhamgcfmaa.arr Go.Proofs.Ytpmojmhamgcfmaa.pm Go.Proofs.Ytpmojmhamgcfmaa.permOk Go.Proofs.Ytpmojmhamgcfmaa.permOf Go.Proofs.Ytpmojmhamgcfmaa.inv Go.Proofs.Ytpmojmhamgcfmaa.fns Go.Proofs.Ytpmojmhamgcfmaa.sf Go.Proofs.Ytpmojmhamgcfmaa.gl Go.Proofs.Ytpmojmhamgcfmaa.mk Go.Proofs.Ytpmojmhamgcfmaa.lw
set_option linter.unusedVariables false
set_option maxRecDepth 100000
set_option maxHeartbeats 8000000 in
theorem lit1 (r u : List Int) (n : Nat) (w : World) (hs : Sf n r u) :
    Calls Try.prog 91 #[.agg (V (gl (ext r) (ext u) n)).toArray] w fun e w' => e = .returned (.agg (V (gl (ext r) (ext (thn (Inv r) u)) n)).toArray) ∧ Below w.heap.size w w' := by
  have HS := Lib.hid hs
  have RS := Lib.hid hs.r.sq; have US := Lib.hid hs.u.sq
  have ER := Lib.hid (inv_ext hs.r); have EU := Lib.hid (inv_ext hs.u)
  clear hs
  go_enter Try.func91, Try.ntmps91
  go_wp2_with fail
  generalize hw1 : (w.alloc (.cells (V (gl (ext r) (ext u) n)).toArray 63)).alloc (.cells #[.int .i64 0, .int .i64 0, .int .i64 0, .int .i64 0, .int .i64 0, .int .i64 0, .int .i64 0, .int .i64 0, .int .i64 0, .int .i64 0, .int .i64 0, .int .i64 0, .int .i64 0, .int .i64 0, .int .i64 0, .int .i64 0, .int .i64 0, .int .i64 0, .int .i64 0, .int .i64 0, .int .i64 0, .int .i64 0, .int .i64 0, .int .i64 0, .int .i64 0, .int .i64 0, .int .i64 0, .int .i64 0, .int .i64 0, .int .i64 0, .int .i64 0, .int .i64 0, .int .i64 0, .int .i64 0, .int .i64 0, .int .i64 0, .int .i64 0, .int .i64 0, .int .i64 0, .int .i64 0, .int .i64 0, .int .i64 0, .int .i64 0, .int .i64 0, .int .i64 0, .int .i64 0, .int .i64 0, .int .i64 0, .int .i64 0] 63) = w1
  have A0 : Hid (Arr w1 w.heap.size (V (gl (ext r) (ext u) n)) 63) := Lib.hid (by rw [← hw1]; exact (Arr.new w _ _ rfl).alloc _)
  have A1 : Hid (Arr w1 (w.heap.size + 1) (V zero49) 63) := Lib.hid (by rw [← hw1]; exact Arr.new _ (V zero49) _ (by simp))
  have B1 : Hid (Below w.heap.size w w1) := Lib.hid (by rw [← hw1]; exact ((Below.refl _ _).alloc (Nat.le_refl _) _).alloc (by simp) _)
  have s1 : w1.heap.size = w.heap.size + 2 := by rw [← hw1]; simp
  clear hw1
  refine wp_region_held_drew (S := Hld w.heap.size w1.heap.size w1 [(w.heap.size, (V (gl (ext r) (ext u) n)))]) (by kernel_rfl) ((Hld.start1 A0.out).lower (by omega)) (fun hHeld => ?_)
  have b1 : Below w1.heap.size w1 w1.drew := ⟨rfl, rfl, rfl, Nat.le_refl _, fun _ _ => rfl⟩
  generalize w1.drew = w2 at *
  have s2 := b1.size
  replace A1 := Lib.hid (A1.out.keep b1 A1.out.lt)
  replace B1 := Lib.hid (B1.out.trans (b1.mono B1.out.size))
  clear b1 A0
  refine wpAnyH_take (i := 0) (v := .pointer (some ⟨w.heap.size, 0, none⟩)) rfl (by kernel_rfl) (by kernel_rfl) (by kernel_rfl) (fun _ _ _ h => h) (Or.inl ⟨by rfl, fun w hSw => by go_simp⟩) hHeld ?_
  refine wpAnyH_take (i := 2) (v := .pointer (some ⟨w.heap.size, 0, none⟩)) rfl (by kernel_rfl) (by kernel_rfl) (by kernel_rfl) (fun _ _ _ h => h) (Or.inl ⟨by rfl, fun w hSw => by go_simp⟩) hHeld ?_
  refine wpAnyH_take (i := 5) (v := .pointer (some ⟨w.heap.size, 24, none⟩)) rfl (by kernel_rfl) (by kernel_rfl) (by kernel_rfl) (fun _ _ _ h => h) (Or.inl ⟨by rfl, fun w hSw => by go_simp⟩) hHeld ?_
  refine wpAnyH_take (i := 8) (v := .pointer (some ⟨w.heap.size, 48, none⟩)) rfl (by kernel_rfl) (by kernel_rfl) (by kernel_rfl) (fun _ _ _ h => h) (Or.inl ⟨by rfl, fun w hSw => by go_simp⟩) hHeld ?_
  refine wpAnyH_take (i := 1) (v := .agg (V (ext r)).toArray) rfl (by kernel_rfl) (by kernel_rfl) (by kernel_rfl) (fun _ _ _ h => h) (yieldsIf_load_mid (by rfl) _ _ rfl (w.heap.size) 0 rfl (V (ext r)) _ (fun w h => rg_right (ext_len _) h.fst) Try.underlying61 rfl (hi24 (ext_len _))) hHeld ?_
  refine wpAnyH_take (i := 3) (v := .agg (V (ext r)).toArray) rfl (by kernel_rfl) (by kernel_rfl) (by kernel_rfl) (fun _ _ _ h => h) (yieldsIf_load_mid (by rfl) _ _ rfl (w.heap.size) 0 rfl (V (ext r)) _ (fun w h => rg_right (ext_len _) h.fst) Try.underlying61 rfl (hi24 (ext_len _))) hHeld ?_
  refine wpAnyH_take (i := 6) (v := .agg (V (ext u)).toArray) rfl (by kernel_rfl) (by kernel_rfl) (by kernel_rfl) (fun _ _ _ h => h) (yieldsIf_load_mid (by rfl) _ _ rfl (w.heap.size) 24 rfl (V (ext u)) _ (fun w h => rg_up (ext_len _) (ext_len _) h.fst) Try.underlying61 rfl (hi24 (ext_len _))) hHeld ?_
  refine wpAnyH_take (i := 9) (v := .int .i64 n) rfl (by kernel_rfl) (by kernel_rfl) (by kernel_rfl) (fun _ _ _ h => h) (Or.inl ⟨by rfl, fun w hSw => by have := rg_count (ext_len _) (ext_len _) hSw.fst; go_simp⟩) hHeld ?_
  refine wpAnyH_ready (rs := [4]) (by kernel_rfl) (by simp) (AllReadyH.cons rfl (fun K hK => ?_) AllReadyH.nil)
  go_simp
  refine (inverse_any (ext r) _ RS.out).mono ?_
  rintro e w' ⟨rfl, b1⟩
  rw [ER.out]
  replace A1 := Lib.hid (A1.out.keep b1 A1.out.lt)
  replace B1 := Lib.hid (B1.out.trans (b1.mono B1.out.size))
  go_wp2_with fail
  have hHeld2 := hHeld.later b1 (by omega); clear b1 hHeld
  refine hK.out _ _ hHeld2 (fun hHeld => ?_)
  clear hK K hHeld2
  refine wpAnyH_ready (rs := [7]) (by kernel_rfl) (by simp) (AllReadyH.cons rfl (fun K hK => ?_) AllReadyH.nil)
  go_simp
  refine (inv.then_any (ext (Inv r)) (ext u) _ (Inv_ok HS.out.r).sq US.out).mono ?_
  rintro e w' ⟨rfl, b1⟩
  rw [thn_ext (Inv_ok HS.out.r) HS.out.u (by rw [Inv_len, HS.out.lr, HS.out.lu])]
  replace A1 := Lib.hid (A1.out.keep b1 A1.out.lt)
  replace B1 := Lib.hid (B1.out.trans (b1.mono B1.out.size))
  go_wp2_with fail
  have hHeld2 := hHeld.later b1 (by omega); clear b1 hHeld
  refine hK.out _ _ hHeld2 (fun hHeld => ?_)
  clear hK K hHeld2
  refine wpAnyH_ready (rs := [10]) (by kernel_rfl) (by simp) (AllReadyH.cons rfl (fun K hK => ?_) AllReadyH.nil)
  refine step_build rfl 63 _ rfl [(0, .agg (V (ext r)).toArray), (1, .agg (V (ext (thn (Inv r) u))).toArray), (2, .int .i64 n)] rfl (V (gl (ext r) (ext (thn (Inv r) u)) n)).toArray (built_gl (ext_len _) (ext_len _) n) ?_
  refine hK.out _ _ hHeld (fun hHeld2 => ?_)
  clear hK K hHeld2
  refine wpAnyH_ready (rs := [11]) (by kernel_rfl) (by simp) (AllReadyH.cons rfl (fun K hK => ?_) AllReadyH.nil)
  refine step_store_row rfl 63 _ _ rfl (w.heap.size + 1) (V (gl (ext r) (ext (thn (Inv r) u)) n)).toArray rfl rfl 63 (V zero49).toArray A1.out (size49 (gl_len (ext_len _) (ext_len _) n)) (by simp [V_len, gl_len, ext_len, zero49]) (one_V _) ?_
  refine hK.out _ _ (hHeld.other (by omega) (by simp) _) (fun hHeld2 => ?_)
  clear hK K hHeld2
  refine wpAnyH_done (by kernel_rfl) ?_ _
  go_wp2_with fail
  exact bodyPost_ret (v := .agg (V (gl (ext r) (ext (thn (Inv r) u)) n)).toArray) (results_cell_row rfl _ _ (w.heap.size + 1) 63 (V (gl (ext r) (ext (thn (Inv r) u)) n)).toArray (0, 0) _ rfl A1.out.row Try.underlying63 rfl (size49 (gl_len (ext_len _) (ext_len _) n))) rfl ⟨rfl, below_setRow B1.out (by omega) _⟩
set_option maxHeartbeats 8000000 in
theorem lit2 (r u : List Int) (n : Nat) (w : World) (hs : Sf n r u) :
    Calls Try.prog 92 #[.agg (V (gl (ext r) (ext u) n)).toArray] w fun e w' => e = .returned (.agg (V (gl (ext r) (ext (thn r u)) n)).toArray) ∧ Below w.heap.size w w' := by
  have HS := Lib.hid hs
  have RS := Lib.hid hs.r.sq; have US := Lib.hid hs.u.sq
  have ER := Lib.hid (inv_ext hs.r); have EU := Lib.hid (inv_ext hs.u)
  clear hs
  go_enter Try.func92, Try.ntmps92
  go_wp2_with fail
  generalize hw1 : (w.alloc (.cells (V (gl (ext r) (ext u) n)).toArray 63)).alloc (.cells #[.int .i64 0, .int .i64 0, .int .i64 0, .int .i64 0, .int .i64 0, .int .i64 0, .int .i64 0, .int .i64 0, .int .i64 0, .int .i64 0, .int .i64 0, .int .i64 0, .int .i64 0, .int .i64 0, .int .i64 0, .int .i64 0, .int .i64 0, .int .i64 0, .int .i64 0, .int .i64 0, .int .i64 0, .int .i64 0, .int .i64 0, .int .i64 0, .int .i64 0, .int .i64 0, .int .i64 0, .int .i64 0, .int .i64 0, .int .i64 0, .int .i64 0, .int .i64 0, .int .i64 0, .int .i64 0, .int .i64 0, .int .i64 0, .int .i64 0, .int .i64 0, .int .i64 0, .int .i64 0, .int .i64 0, .int .i64 0, .int .i64 0, .int .i64 0, .int .i64 0, .int .i64 0, .int .i64 0, .int .i64 0, .int .i64 0] 63) = w1
  have A0 : Hid (Arr w1 w.heap.size (V (gl (ext r) (ext u) n)) 63) := Lib.hid (by rw [← hw1]; exact (Arr.new w _ _ rfl).alloc _)
  have A1 : Hid (Arr w1 (w.heap.size + 1) (V zero49) 63) := Lib.hid (by rw [← hw1]; exact Arr.new _ (V zero49) _ (by simp))
  have B1 : Hid (Below w.heap.size w w1) := Lib.hid (by rw [← hw1]; exact ((Below.refl _ _).alloc (Nat.le_refl _) _).alloc (by simp) _)
  have s1 : w1.heap.size = w.heap.size + 2 := by rw [← hw1]; simp
  clear hw1
  refine wp_region_held_drew (S := Hld w.heap.size w1.heap.size w1 [(w.heap.size, (V (gl (ext r) (ext u) n)))]) (by kernel_rfl) ((Hld.start1 A0.out).lower (by omega)) (fun hHeld => ?_)
  have b1 : Below w1.heap.size w1 w1.drew := ⟨rfl, rfl, rfl, Nat.le_refl _, fun _ _ => rfl⟩
  generalize w1.drew = w2 at *
  have s2 := b1.size
  replace A1 := Lib.hid (A1.out.keep b1 A1.out.lt)
  replace B1 := Lib.hid (B1.out.trans (b1.mono B1.out.size))
  clear b1 A0
  refine wpAnyH_take (i := 0) (v := .pointer (some ⟨w.heap.size, 0, none⟩)) rfl (by kernel_rfl) (by kernel_rfl) (by kernel_rfl) (fun _ _ _ h => h) (Or.inl ⟨by rfl, fun w hSw => by go_simp⟩) hHeld ?_
  refine wpAnyH_take (i := 2) (v := .pointer (some ⟨w.heap.size, 0, none⟩)) rfl (by kernel_rfl) (by kernel_rfl) (by kernel_rfl) (fun _ _ _ h => h) (Or.inl ⟨by rfl, fun w hSw => by go_simp⟩) hHeld ?_
  refine wpAnyH_take (i := 4) (v := .pointer (some ⟨w.heap.size, 24, none⟩)) rfl (by kernel_rfl) (by kernel_rfl) (by kernel_rfl) (fun _ _ _ h => h) (Or.inl ⟨by rfl, fun w hSw => by go_simp⟩) hHeld ?_
  refine wpAnyH_take (i := 7) (v := .pointer (some ⟨w.heap.size, 48, none⟩)) rfl (by kernel_rfl) (by kernel_rfl) (by kernel_rfl) (fun _ _ _ h => h) (Or.inl ⟨by rfl, fun w hSw => by go_simp⟩) hHeld ?_
  refine wpAnyH_take (i := 1) (v := .agg (V (ext r)).toArray) rfl (by kernel_rfl) (by kernel_rfl) (by kernel_rfl) (fun _ _ _ h => h) (yieldsIf_load_mid (by rfl) _ _ rfl (w.heap.size) 0 rfl (V (ext r)) _ (fun w h => rg_right (ext_len _) h.fst) Try.underlying61 rfl (hi24 (ext_len _))) hHeld ?_
  refine wpAnyH_take (i := 3) (v := .agg (V (ext r)).toArray) rfl (by kernel_rfl) (by kernel_rfl) (by kernel_rfl) (fun _ _ _ h => h) (yieldsIf_load_mid (by rfl) _ _ rfl (w.heap.size) 0 rfl (V (ext r)) _ (fun w h => rg_right (ext_len _) h.fst) Try.underlying61 rfl (hi24 (ext_len _))) hHeld ?_
  refine wpAnyH_take (i := 5) (v := .agg (V (ext u)).toArray) rfl (by kernel_rfl) (by kernel_rfl) (by kernel_rfl) (fun _ _ _ h => h) (yieldsIf_load_mid (by rfl) _ _ rfl (w.heap.size) 24 rfl (V (ext u)) _ (fun w h => rg_up (ext_len _) (ext_len _) h.fst) Try.underlying61 rfl (hi24 (ext_len _))) hHeld ?_
  refine wpAnyH_take (i := 8) (v := .int .i64 n) rfl (by kernel_rfl) (by kernel_rfl) (by kernel_rfl) (fun _ _ _ h => h) (Or.inl ⟨by rfl, fun w hSw => by have := rg_count (ext_len _) (ext_len _) hSw.fst; go_simp⟩) hHeld ?_
  refine wpAnyH_ready (rs := [6]) (by kernel_rfl) (by simp) (AllReadyH.cons rfl (fun K hK => ?_) AllReadyH.nil)
  go_simp
  refine (inv.then_any (ext r) (ext u) _ RS.out US.out).mono ?_
  rintro e w' ⟨rfl, b1⟩
  rw [thn_ext HS.out.r HS.out.u (by rw [HS.out.lr, HS.out.lu])]
  replace A1 := Lib.hid (A1.out.keep b1 A1.out.lt)
  replace B1 := Lib.hid (B1.out.trans (b1.mono B1.out.size))
  go_wp2_with fail
  have hHeld2 := hHeld.later b1 (by omega); clear b1 hHeld
  refine hK.out _ _ hHeld2 (fun hHeld => ?_)
  clear hK K hHeld2
  refine wpAnyH_ready (rs := [9]) (by kernel_rfl) (by simp) (AllReadyH.cons rfl (fun K hK => ?_) AllReadyH.nil)
  refine step_build rfl 63 _ rfl [(0, .agg (V (ext r)).toArray), (1, .agg (V (ext (thn r u))).toArray), (2, .int .i64 n)] rfl (V (gl (ext r) (ext (thn r u)) n)).toArray (built_gl (ext_len _) (ext_len _) n) ?_
  refine hK.out _ _ hHeld (fun hHeld2 => ?_)
  clear hK K hHeld2
  refine wpAnyH_ready (rs := [10]) (by kernel_rfl) (by simp) (AllReadyH.cons rfl (fun K hK => ?_) AllReadyH.nil)
  refine step_store_row rfl 63 _ _ rfl (w.heap.size + 1) (V (gl (ext r) (ext (thn r u)) n)).toArray rfl rfl 63 (V zero49).toArray A1.out (size49 (gl_len (ext_len _) (ext_len _) n)) (by simp [V_len, gl_len, ext_len, zero49]) (one_V _) ?_
  refine hK.out _ _ (hHeld.other (by omega) (by simp) _) (fun hHeld2 => ?_)
  clear hK K hHeld2
  refine wpAnyH_done (by kernel_rfl) ?_ _
  go_wp2_with fail
  exact bodyPost_ret (v := .agg (V (gl (ext r) (ext (thn r u)) n)).toArray) (results_cell_row rfl _ _ (w.heap.size + 1) 63 (V (gl (ext r) (ext (thn r u)) n)).toArray (0, 0) _ rfl A1.out.row Try.underlying63 rfl (size49 (gl_len (ext_len _) (ext_len _) n))) rfl ⟨rfl, below_setRow B1.out (by omega) _⟩
set_option maxHeartbeats 8000000 in
theorem lit3 (r u : List Int) (n : Nat) (w : World) (hs : Sf n r u) :
    Calls Try.prog 93 #[.agg (V (gl (ext r) (ext u) n)).toArray] w fun e w' => e = .returned (.agg (V (gl (ext (Inv u)) (ext r) n)).toArray) ∧ Below w.heap.size w w' := by
  have HS := Lib.hid hs
  have RS := Lib.hid hs.r.sq; have US := Lib.hid hs.u.sq
  have ER := Lib.hid (inv_ext hs.r); have EU := Lib.hid (inv_ext hs.u)
  clear hs
  go_enter Try.func93, Try.ntmps93
  go_wp2_with fail
  generalize hw1 : (w.alloc (.cells (V (gl (ext r) (ext u) n)).toArray 63)).alloc (.cells #[.int .i64 0, .int .i64 0, .int .i64 0, .int .i64 0, .int .i64 0, .int .i64 0, .int .i64 0, .int .i64 0, .int .i64 0, .int .i64 0, .int .i64 0, .int .i64 0, .int .i64 0, .int .i64 0, .int .i64 0, .int .i64 0, .int .i64 0, .int .i64 0, .int .i64 0, .int .i64 0, .int .i64 0, .int .i64 0, .int .i64 0, .int .i64 0, .int .i64 0, .int .i64 0, .int .i64 0, .int .i64 0, .int .i64 0, .int .i64 0, .int .i64 0, .int .i64 0, .int .i64 0, .int .i64 0, .int .i64 0, .int .i64 0, .int .i64 0, .int .i64 0, .int .i64 0, .int .i64 0, .int .i64 0, .int .i64 0, .int .i64 0, .int .i64 0, .int .i64 0, .int .i64 0, .int .i64 0, .int .i64 0, .int .i64 0] 63) = w1
  have A0 : Hid (Arr w1 w.heap.size (V (gl (ext r) (ext u) n)) 63) := Lib.hid (by rw [← hw1]; exact (Arr.new w _ _ rfl).alloc _)
  have A1 : Hid (Arr w1 (w.heap.size + 1) (V zero49) 63) := Lib.hid (by rw [← hw1]; exact Arr.new _ (V zero49) _ (by simp))
  have B1 : Hid (Below w.heap.size w w1) := Lib.hid (by rw [← hw1]; exact ((Below.refl _ _).alloc (Nat.le_refl _) _).alloc (by simp) _)
  have s1 : w1.heap.size = w.heap.size + 2 := by rw [← hw1]; simp
  clear hw1
  refine wp_region_held_drew (S := Hld w.heap.size w1.heap.size w1 [(w.heap.size, (V (gl (ext r) (ext u) n)))]) (by kernel_rfl) ((Hld.start1 A0.out).lower (by omega)) (fun hHeld => ?_)
  have b1 : Below w1.heap.size w1 w1.drew := ⟨rfl, rfl, rfl, Nat.le_refl _, fun _ _ => rfl⟩
  generalize w1.drew = w2 at *
  have s2 := b1.size
  replace A1 := Lib.hid (A1.out.keep b1 A1.out.lt)
  replace B1 := Lib.hid (B1.out.trans (b1.mono B1.out.size))
  clear b1 A0
  refine wpAnyH_take (i := 0) (v := .pointer (some ⟨w.heap.size, 24, none⟩)) rfl (by kernel_rfl) (by kernel_rfl) (by kernel_rfl) (fun _ _ _ h => h) (Or.inl ⟨by rfl, fun w hSw => by go_simp⟩) hHeld ?_
  refine wpAnyH_take (i := 3) (v := .pointer (some ⟨w.heap.size, 0, none⟩)) rfl (by kernel_rfl) (by kernel_rfl) (by kernel_rfl) (fun _ _ _ h => h) (Or.inl ⟨by rfl, fun w hSw => by go_simp⟩) hHeld ?_
  refine wpAnyH_take (i := 5) (v := .pointer (some ⟨w.heap.size, 48, none⟩)) rfl (by kernel_rfl) (by kernel_rfl) (by kernel_rfl) (fun _ _ _ h => h) (Or.inl ⟨by rfl, fun w hSw => by go_simp⟩) hHeld ?_
  refine wpAnyH_take (i := 1) (v := .agg (V (ext u)).toArray) rfl (by kernel_rfl) (by kernel_rfl) (by kernel_rfl) (fun _ _ _ h => h) (yieldsIf_load_mid (by rfl) _ _ rfl (w.heap.size) 24 rfl (V (ext u)) _ (fun w h => rg_up (ext_len _) (ext_len _) h.fst) Try.underlying61 rfl (hi24 (ext_len _))) hHeld ?_
  refine wpAnyH_take (i := 4) (v := .agg (V (ext r)).toArray) rfl (by kernel_rfl) (by kernel_rfl) (by kernel_rfl) (fun _ _ _ h => h) (yieldsIf_load_mid (by rfl) _ _ rfl (w.heap.size) 0 rfl (V (ext r)) _ (fun w h => rg_right (ext_len _) h.fst) Try.underlying61 rfl (hi24 (ext_len _))) hHeld ?_
  refine wpAnyH_take (i := 6) (v := .int .i64 n) rfl (by kernel_rfl) (by kernel_rfl) (by kernel_rfl) (fun _ _ _ h => h) (Or.inl ⟨by rfl, fun w hSw => by have := rg_count (ext_len _) (ext_len _) hSw.fst; go_simp⟩) hHeld ?_
  refine wpAnyH_ready (rs := [2]) (by kernel_rfl) (by simp) (AllReadyH.cons rfl (fun K hK => ?_) AllReadyH.nil)
  go_simp
  refine (inverse_any (ext u) _ US.out).mono ?_
  rintro e w' ⟨rfl, b1⟩
  rw [EU.out]
  replace A1 := Lib.hid (A1.out.keep b1 A1.out.lt)
  replace B1 := Lib.hid (B1.out.trans (b1.mono B1.out.size))
  go_wp2_with fail
  have hHeld2 := hHeld.later b1 (by omega); clear b1 hHeld
  refine hK.out _ _ hHeld2 (fun hHeld => ?_)
  clear hK K hHeld2
  refine wpAnyH_ready (rs := [7]) (by kernel_rfl) (by simp) (AllReadyH.cons rfl (fun K hK => ?_) AllReadyH.nil)
  refine step_build rfl 63 _ rfl [(0, .agg (V (ext (Inv u))).toArray), (1, .agg (V (ext r)).toArray), (2, .int .i64 n)] rfl (V (gl (ext (Inv u)) (ext r) n)).toArray (built_gl (ext_len _) (ext_len _) n) ?_
  refine hK.out _ _ hHeld (fun hHeld2 => ?_)
  clear hK K hHeld2
  refine wpAnyH_ready (rs := [8]) (by kernel_rfl) (by simp) (AllReadyH.cons rfl (fun K hK => ?_) AllReadyH.nil)
  refine step_store_row rfl 63 _ _ rfl (w.heap.size + 1) (V (gl (ext (Inv u)) (ext r) n)).toArray rfl rfl 63 (V zero49).toArray A1.out (size49 (gl_len (ext_len _) (ext_len _) n)) (by simp [V_len, gl_len, ext_len, zero49]) (one_V _) ?_
  refine hK.out _ _ (hHeld.other (by omega) (by simp) _) (fun hHeld2 => ?_)
  clear hK K hHeld2
  refine wpAnyH_done (by kernel_rfl) ?_ _
  go_wp2_with fail
  exact bodyPost_ret (v := .agg (V (gl (ext (Inv u)) (ext r) n)).toArray) (results_cell_row rfl _ _ (w.heap.size + 1) 63 (V (gl (ext (Inv u)) (ext r) n)).toArray (0, 0) _ rfl A1.out.row Try.underlying63 rfl (size49 (gl_len (ext_len _) (ext_len _) n))) rfl ⟨rfl, below_setRow B1.out (by omega) _⟩
set_option maxHeartbeats 8000000 in
theorem lit4 (r u : List Int) (n : Nat) (w : World) (hs : Sf n r u) :
    Calls Try.prog 94 #[.agg (V (gl (ext r) (ext u) n)).toArray] w fun e w' => e = .returned (.agg (V (gl (ext u) (ext (Inv r)) n)).toArray) ∧ Below w.heap.size w w' := by
  have HS := Lib.hid hs
  have RS := Lib.hid hs.r.sq; have US := Lib.hid hs.u.sq
  have ER := Lib.hid (inv_ext hs.r); have EU := Lib.hid (inv_ext hs.u)
  clear hs
  go_enter Try.func94, Try.ntmps94
  go_wp2_with fail
  generalize hw1 : (w.alloc (.cells (V (gl (ext r) (ext u) n)).toArray 63)).alloc (.cells #[.int .i64 0, .int .i64 0, .int .i64 0, .int .i64 0, .int .i64 0, .int .i64 0, .int .i64 0, .int .i64 0, .int .i64 0, .int .i64 0, .int .i64 0, .int .i64 0, .int .i64 0, .int .i64 0, .int .i64 0, .int .i64 0, .int .i64 0, .int .i64 0, .int .i64 0, .int .i64 0, .int .i64 0, .int .i64 0, .int .i64 0, .int .i64 0, .int .i64 0, .int .i64 0, .int .i64 0, .int .i64 0, .int .i64 0, .int .i64 0, .int .i64 0, .int .i64 0, .int .i64 0, .int .i64 0, .int .i64 0, .int .i64 0, .int .i64 0, .int .i64 0, .int .i64 0, .int .i64 0, .int .i64 0, .int .i64 0, .int .i64 0, .int .i64 0, .int .i64 0, .int .i64 0, .int .i64 0, .int .i64 0, .int .i64 0] 63) = w1
  have A0 : Hid (Arr w1 w.heap.size (V (gl (ext r) (ext u) n)) 63) := Lib.hid (by rw [← hw1]; exact (Arr.new w _ _ rfl).alloc _)
  have A1 : Hid (Arr w1 (w.heap.size + 1) (V zero49) 63) := Lib.hid (by rw [← hw1]; exact Arr.new _ (V zero49) _ (by simp))
  have B1 : Hid (Below w.heap.size w w1) := Lib.hid (by rw [← hw1]; exact ((Below.refl _ _).alloc (Nat.le_refl _) _).alloc (by simp) _)
  have s1 : w1.heap.size = w.heap.size + 2 := by rw [← hw1]; simp
  clear hw1
  refine wp_region_held_drew (S := Hld w.heap.size w1.heap.size w1 [(w.heap.size, (V (gl (ext r) (ext u) n)))]) (by kernel_rfl) ((Hld.start1 A0.out).lower (by omega)) (fun hHeld => ?_)
  have b1 : Below w1.heap.size w1 w1.drew := ⟨rfl, rfl, rfl, Nat.le_refl _, fun _ _ => rfl⟩
  generalize w1.drew = w2 at *
  have s2 := b1.size
  replace A1 := Lib.hid (A1.out.keep b1 A1.out.lt)
  replace B1 := Lib.hid (B1.out.trans (b1.mono B1.out.size))
  clear b1 A0
  refine wpAnyH_take (i := 0) (v := .pointer (some ⟨w.heap.size, 24, none⟩)) rfl (by kernel_rfl) (by kernel_rfl) (by kernel_rfl) (fun _ _ _ h => h) (Or.inl ⟨by rfl, fun w hSw => by go_simp⟩) hHeld ?_
  refine wpAnyH_take (i := 2) (v := .pointer (some ⟨w.heap.size, 0, none⟩)) rfl (by kernel_rfl) (by kernel_rfl) (by kernel_rfl) (fun _ _ _ h => h) (Or.inl ⟨by rfl, fun w hSw => by go_simp⟩) hHeld ?_
  refine wpAnyH_take (i := 5) (v := .pointer (some ⟨w.heap.size, 48, none⟩)) rfl (by kernel_rfl) (by kernel_rfl) (by kernel_rfl) (fun _ _ _ h => h) (Or.inl ⟨by rfl, fun w hSw => by go_simp⟩) hHeld ?_
  refine wpAnyH_take (i := 1) (v := .agg (V (ext u)).toArray) rfl (by kernel_rfl) (by kernel_rfl) (by kernel_rfl) (fun _ _ _ h => h) (yieldsIf_load_mid (by rfl) _ _ rfl (w.heap.size) 24 rfl (V (ext u)) _ (fun w h => rg_up (ext_len _) (ext_len _) h.fst) Try.underlying61 rfl (hi24 (ext_len _))) hHeld ?_
  refine wpAnyH_take (i := 3) (v := .agg (V (ext r)).toArray) rfl (by kernel_rfl) (by kernel_rfl) (by kernel_rfl) (fun _ _ _ h => h) (yieldsIf_load_mid (by rfl) _ _ rfl (w.heap.size) 0 rfl (V (ext r)) _ (fun w h => rg_right (ext_len _) h.fst) Try.underlying61 rfl (hi24 (ext_len _))) hHeld ?_
  refine wpAnyH_take (i := 6) (v := .int .i64 n) rfl (by kernel_rfl) (by kernel_rfl) (by kernel_rfl) (fun _ _ _ h => h) (Or.inl ⟨by rfl, fun w hSw => by have := rg_count (ext_len _) (ext_len _) hSw.fst; go_simp⟩) hHeld ?_
  refine wpAnyH_ready (rs := [4]) (by kernel_rfl) (by simp) (AllReadyH.cons rfl (fun K hK => ?_) AllReadyH.nil)
  go_simp
  refine (inverse_any (ext r) _ RS.out).mono ?_
  rintro e w' ⟨rfl, b1⟩
  rw [ER.out]
  replace A1 := Lib.hid (A1.out.keep b1 A1.out.lt)
  replace B1 := Lib.hid (B1.out.trans (b1.mono B1.out.size))
  go_wp2_with fail
  have hHeld2 := hHeld.later b1 (by omega); clear b1 hHeld
  refine hK.out _ _ hHeld2 (fun hHeld => ?_)
  clear hK K hHeld2
  refine wpAnyH_ready (rs := [7]) (by kernel_rfl) (by simp) (AllReadyH.cons rfl (fun K hK => ?_) AllReadyH.nil)
  refine step_build rfl 63 _ rfl [(0, .agg (V (ext u)).toArray), (1, .agg (V (ext (Inv r))).toArray), (2, .int .i64 n)] rfl (V (gl (ext u) (ext (Inv r)) n)).toArray (built_gl (ext_len _) (ext_len _) n) ?_
  refine hK.out _ _ hHeld (fun hHeld2 => ?_)
  clear hK K hHeld2
  refine wpAnyH_ready (rs := [8]) (by kernel_rfl) (by simp) (AllReadyH.cons rfl (fun K hK => ?_) AllReadyH.nil)
  refine step_store_row rfl 63 _ _ rfl (w.heap.size + 1) (V (gl (ext u) (ext (Inv r)) n)).toArray rfl rfl 63 (V zero49).toArray A1.out (size49 (gl_len (ext_len _) (ext_len _) n)) (by simp [V_len, gl_len, ext_len, zero49]) (one_V _) ?_
  refine hK.out _ _ (hHeld.other (by omega) (by simp) _) (fun hHeld2 => ?_)
  clear hK K hHeld2
  refine wpAnyH_done (by kernel_rfl) ?_ _
  go_wp2_with fail
  exact bodyPost_ret (v := .agg (V (gl (ext u) (ext (Inv r)) n)).toArray) (results_cell_row rfl _ _ (w.heap.size + 1) 63 (V (gl (ext u) (ext (Inv r)) n)).toArray (0, 0) _ rfl A1.out.row Try.underlying63 rfl (size49 (gl_len (ext_len _) (ext_len _) n))) rfl ⟨rfl, below_setRow B1.out (by omega) _⟩
/-- The table of letters. -/
def fTab : List Value := [.func (.func 91) #[] #[], .func (.func 92) #[] #[], .func (.func 93) #[] #[], .func (.func 94) #[] #[]]
theorem sizeF : (Try.prog.info? 105).map (·.size) = some fTab.toArray.size := by kernel_rfl
set_option maxHeartbeats 1000000 in
theorem acts_any (w : World) : Calls Try.prog 77 #[] w fun e w' => e = .returned (.agg fTab.toArray) ∧ Below w.heap.size w w' := by
  go_enter Try.func77, Try.ntmps77
  go_wp2_with (refine wpList_store_row rfl 105 _ _ rfl w.heap.size fTab.toArray rfl rfl 105 #[.nilFunc, .nilFunc, .nilFunc, .nilFunc] (Arr.new w [.nilFunc, .nilFunc, .nilFunc, .nilFunc] _ rfl) sizeF rfl (by simp [fTab, Value.oneCell']) ?_)
  exact bodyPost_ret (v := .agg fTab.toArray) (results_cell_row rfl _ _ w.heap.size 105 fTab.toArray (0, 0) _ rfl (Arr.new w [.nilFunc, .nilFunc, .nilFunc, .nilFunc] 105 rfl).row Try.underlying105 rfl sizeF) rfl ⟨rfl, below_setRow ((Below.refl _ _).alloc (Nat.le_refl _) _) (Nat.le_refl _) _⟩
/-- The letter of a number; a list of them, one after another. -/
def letN (z : Int) (s : Sur) : Sur := if z = 0 then shearS s else if z = 1 then unshearS s else if z = 2 then turnS s else unturnS s
def runN (L : List Int) (s : Sur) : Sur := L.foldl (fun s z => letN z s) s
theorem letN_sf {n : Nat} {R U : List Int} (s : Sf n R U) (z : Int) : Sf n (letN z (R, U)).1 (letN z (R, U)).2 := by
  unfold letN
  split
  · exact shear_sf s
  · split
    · exact unshear_sf s
    · split
      · exact turn_sf s
      · exact unturn_sf s
theorem runN_sf {n : Nat} : ∀ (L : List Int) (s : Sur), Sf n s.1 s.2 → Sf n (runN L s).1 (runN L s).2 := by
  intro L
  induction L with
  | nil => intro s h; exact h
  | cons c L ih => intro s h; exact ih (letN c s) (letN_sf (R := s.1) (U := s.2) h c)
theorem runN_keeps (L : List Int) : Keeps (runN L) := fun n R U s => runN_sf L (R, U) s
theorem runN_take {L : List Int} {k : Nat} {x : Int} (hx : L[k]? = some x) (s : Sur) : runN (L.take (k + 1)) s = letN x (runN (L.take k) s) := by
  unfold runN
  rw [List.take_add_one, hx, List.foldl_append]
  rfl
theorem letN_num {c : UInt8} (h : isL c = true) (s : Sur) : letN (wd.num c) s = letS c s := by
  rcases wd.num_cases h with ⟨a, b⟩ | ⟨a, b⟩ | ⟨a, b⟩ | ⟨a, b⟩ <;> rw [b] <;> simp [letN, letS, a]
theorem runN_nums : ∀ (l : List UInt8) (s : Sur), l.all isL = true → runN (l.map wd.num) s = runS l s := by
  intro l
  induction l with
  | nil => intro s _; rfl
  | cons c l ih =>
    intro s h
    simp only [List.all_cons, Bool.and_eq_true] at h
    show runN (l.map wd.num) (letN (wd.num c) s) = runS l (letS c s)
    rw [letN_num h.1, ih _ h.2]
/-- One letter of the table, on a gluing. -/
theorem lit_any (z : Nat) (hz : z ≤ 3) (r u : List Int) (n : Nat) (w : World) (hs : Sf n r u) :
    ∃ f : Nat, fTab[z]? = some (.func (.func f) #[] #[]) ∧ (∀ args W, (callFunc f args).run Try.prog W = .ok (.enter f args) W) ∧ Calls Try.prog f #[.agg (V (gl (ext r) (ext u) n)).toArray] w fun e w' => e = .returned (.agg (V (gl (ext (letN (z : Int) (r, u)).1) (ext (letN (z : Int) (r, u)).2) n)).toArray) ∧ Below w.heap.size w w' := by
  match z, hz with
  | 0, _ => exact ⟨_, rfl, enters_of Try.func91 (by kernel_rfl) rfl, lit1 r u n w hs⟩
  | 1, _ => exact ⟨_, rfl, enters_of Try.func92 (by kernel_rfl) rfl, lit2 r u n w hs⟩
  | 2, _ => exact ⟨_, rfl, enters_of Try.func93 (by kernel_rfl) rfl, lit3 r u n w hs⟩
  | 3, _ => exact ⟨_, rfl, enters_of Try.func94 (by kernel_rfl) rfl, lit4 r u n w hs⟩
/-- An operation whose value is known is walked so at the head of a region with a forced tail. -/
theorem still_take {P : Program} {ops : Array Oper} {w : World} {Q : Act → Prop} {a : Act} {o : Oper} {rest : List Oper} {v : Value} (hy : YieldsIf P ops (fun W => W = w) o v a) (h : wpStill P ops w Q rest (a.put o.dst v)) : wpStill P ops w Q (o :: rest) a := by
  unfold wpStill
  rcases hy with ⟨hw, hv⟩ | ⟨hw, rfl⟩
  · rw [if_pos hw]
    unfold Oper.still
    rw [hv w rfl, Oper.stillUpon_value]
    exact h
  · rw [if_neg (by rw [hw]; decide)]
    exact h
/-- Between two letters. -/
structure AR (w wr : World) (B5 : Nat) (p : List Int) : Prop where
  g : Arr wr w.heap.size (V p) 63
  res : Arr wr (w.heap.size + 1) (V zero49) 63
  tab : Arr wr B5 fTab 105
  hB : w.heap.size + 1 < B5
  bel : Below w.heap.size w wr
set_option maxHeartbeats 4000000 in
theorem after_any (r u : List Int) (n : Nat) (A : Option Addr) (m c : Nat) (L : List Int) (hi : Nat) (w : World) (hL : Rd w hi A m (V L)) (hh : hi ≤ w.heap.size) (h3 : ∀ l ∈ L, 0 ≤ l ∧ l ≤ 3) (hs : Sf n r u) (hm : m ≤ 40) :
    Calls Try.prog 46 #[.agg (V (gl (ext r) (ext u) n)).toArray, .slice A m c] w fun e w' => e = .returned (.agg (V (gl (ext (runN L (r, u)).1) (ext (runN L (r, u)).2) n)).toArray) ∧ Below w.heap.size w w' := by
  have HS := Lib.hid hs; have HL := Lib.hid hL; have H3 := Lib.hid h3; have LL : Hid (L.length = m) := Lib.hid (by simpa [V] using hL.1)
  clear hs hL h3
  go_enter Try.func46, Try.ntmps46
  go_wp2_with fail
  generalize hw1 : (w.alloc (.cells (V (gl (ext r) (ext u) n)).toArray 63)).alloc (.cells #[.int .i64 0, .int .i64 0, .int .i64 0, .int .i64 0, .int .i64 0, .int .i64 0, .int .i64 0, .int .i64 0, .int .i64 0, .int .i64 0, .int .i64 0, .int .i64 0, .int .i64 0, .int .i64 0, .int .i64 0, .int .i64 0, .int .i64 0, .int .i64 0, .int .i64 0, .int .i64 0, .int .i64 0, .int .i64 0, .int .i64 0, .int .i64 0, .int .i64 0, .int .i64 0, .int .i64 0, .int .i64 0, .int .i64 0, .int .i64 0, .int .i64 0, .int .i64 0, .int .i64 0, .int .i64 0, .int .i64 0, .int .i64 0, .int .i64 0, .int .i64 0, .int .i64 0, .int .i64 0, .int .i64 0, .int .i64 0, .int .i64 0, .int .i64 0, .int .i64 0, .int .i64 0, .int .i64 0, .int .i64 0, .int .i64 0] 63) = w1
  have A0 : Hid (Arr w1 w.heap.size (V (gl (ext r) (ext u) n)) 63) := Lib.hid (by rw [← hw1]; exact (Arr.new w _ _ rfl).alloc _)
  have A1 : Hid (Arr w1 (w.heap.size + 1) (V zero49) 63) := Lib.hid (by rw [← hw1]; exact Arr.new _ (V zero49) _ (by simp))
  have B1 : Hid (Below w.heap.size w w1) := Lib.hid (by rw [← hw1]; exact ((Below.refl _ _).alloc (Nat.le_refl _) _).alloc (by simp) _)
  have s1 : w1.heap.size = w.heap.size + 2 := by rw [← hw1]; simp
  clear hw1
  refine (acts_any _).mono ?_
  rintro e w2 ⟨rfl, b1⟩
  have s2 := b1.size
  replace A0 := Lib.hid (A0.out.keep b1 A0.out.lt)
  replace A1 := Lib.hid (A1.out.keep b1 A1.out.lt)
  replace B1 := Lib.hid (B1.out.trans (b1.mono B1.out.size))
  clear b1
  go_wp2_with (refine wpList_store_row rfl 105 _ _ rfl w2.heap.size fTab.toArray rfl rfl 105 #[.nilFunc, .nilFunc, .nilFunc, .nilFunc] (Arr.new w2 [.nilFunc, .nilFunc, .nilFunc, .nilFunc] _ rfl) sizeF rfl (by simp [fTab, Value.oneCell']) ?_)
  generalize hw3 : (w2.alloc (.cells #[.nilFunc, .nilFunc, .nilFunc, .nilFunc] 105)).setRow w2.heap.size fTab.toArray = w3
  have A5 : Hid (Arr w3 w2.heap.size fTab 105) := Lib.hid (by rw [← hw3]; exact (Arr.new w2 [.nilFunc, .nilFunc, .nilFunc, .nilFunc] _ rfl).row)
  have b1 : Below w2.heap.size w2 w3 := by rw [← hw3]; exact below_setRow ((Below.refl _ _).alloc (Nat.le_refl _) _) (Nat.le_refl _) _
  clear hw3
  have hAR : AR w w3 w2.heap.size (gl (ext r) (ext u) n) := ⟨A0.out.keep b1 A0.out.lt, A1.out.keep b1 A1.out.lt, A5.out, by omega, B1.out.trans (b1.mono B1.out.size)⟩
  clear A0 A1 A5 B1 b1
  have HAR := Lib.hid hAR; clear hAR
  go_loopw [11] (fun i wr => ∃ k : Nat, k ≤ m ∧ i = .int .i64 k ∧ AR w wr w2.heap.size (gl (ext (runN (L.take k) (r, u)).1) (ext (runN (L.take k) (r, u)).2) n)) (fun i _ => m - (intOf i).toNat)
  case atStart => exact ⟨0, Nat.zero_le _, rfl, HAR.out⟩
  case round =>
    clear HAR
    obtain ⟨k, hk, rfl, hr⟩ := hrel
    have HR := Lib.hid hr; clear hr
    by_cases hlt : k < m
    · obtain ⟨x, hx⟩ : ∃ x, L[k]? = some x := ⟨L[k]'(by rw [LL.out]; exact hlt), List.getElem?_eq_getElem _⟩
      have h03 := H3.out x (List.mem_of_getElem? hx)
      obtain ⟨z, rfl⟩ := Int.eq_ofNat_of_zero_le h03.1
      have hz3 : z ≤ 3 := by have := h03.2; omega
      have ST := Lib.hid (runN_take hx (r, u))
      have SK := Lib.hid (runN_sf (L.take k) (r, u) HS.out)
      have RD := HL.out.keep HR.out.bel hh
      obtain ⟨go, oo, uo, rfl, hgo, huo, hco⟩ := RD.at_ hlt
      rw [V_get hx] at huo
      obtain rfl := Option.some.inj huo
      clear RD huo h03 hx
      obtain ⟨rk, hrk⟩ : ∃ q, q = runN (L.take k) (r, u) := ⟨_, rfl⟩
      rw [← hrk] at HR ST SK
      clear hrk
      obtain ⟨ru, uu⟩ := rk
      have hBw : w2.heap.size < wr.heap.size := HR.out.tab.lt
      have hB := HR.out.hB
      obtain ⟨f, hf, hen, hc⟩ := lit_any z hz3 ru uu n wr.drew SK.out
      have HC := Lib.hid hc; have HF := Lib.hid hf; have HE := Lib.hid hen; clear hf hc hen
      go_wp2_with fail
      refine wp_region_still_tail 4 (by kernel_rfl) (by kernel_rfl) ?_
      simp only [List.take_succ_cons, List.take_zero, List.drop_succ_cons, List.drop_zero]
      have b1 : Below wr.heap.size wr wr.drew := ⟨rfl, rfl, rfl, Nat.le_refl _, fun _ _ => rfl⟩
      change wpStill _ _ wr.drew _ _ _
      have AF : Hid (AR w wr.drew w2.heap.size (gl (ext ru) (ext uu) n)) := Lib.hid ⟨HR.out.g.keep b1 HR.out.g.lt, HR.out.res.keep b1 HR.out.res.lt, HR.out.tab.keep b1 HR.out.tab.lt, hB, HR.out.bel.trans (b1.mono HR.out.bel.size)⟩
      have s_ := b1.size
      generalize hw4 : wr.drew = w4 at *
      clear b1 HR
      refine still_take (v := .int .i64 (z : Int)) (Or.inl ⟨by rfl, fun w hSw => by go_simp⟩) ?_
      refine still_take (v := .pointer (some ⟨w2.heap.size, z, none⟩)) (Or.inl ⟨by rfl, fun w hSw => by go_simp; intro h4; exact absurd h4 (by omega)⟩) ?_
      refine still_take (v := .func (.func f) #[] #[]) (Or.inl ⟨by rfl, fun W hSw => by subst hSw; have hc := AF.out.tab.cell HF.out; go_simp⟩) ?_
      refine still_take (v := .agg (V (gl (ext ru) (ext uu) n)).toArray) (yieldsIf_load_mid (by rfl) _ _ rfl (w.heap.size) 0 rfl (V (gl (ext ru) (ext uu) n)) _ (fun W h => by subst h; exact fun j v hv => by rw [Nat.zero_add]; exact AF.out.g.cell hv) Try.underlying63 rfl (hi49 (gl_len (ext_len _) (ext_len _) _))) ?_
      refine wpStill_nil ?_
      change wpList _ _ _ _ _ wr.drew
      rw [hw4]
      clear hw4
      have hE := HE.out
      go_wp2_with fail
      refine HC.out.mono ?_
      rintro e w5 ⟨rfl, b1⟩
      have s5 := b1.size
      have GL := Lib.hid (gl_len (ext_len (letN (z : Int) (ru, uu)).1) (ext_len (letN (z : Int) (ru, uu)).2) n)
      replace AF : Hid (AR w w5 w2.heap.size (gl (ext ru) (ext uu) n)) := Lib.hid ⟨AF.out.g.keep b1 AF.out.g.lt, AF.out.res.keep b1 AF.out.res.lt, AF.out.tab.keep b1 AF.out.tab.lt, hB, AF.out.bel.trans (b1.mono AF.out.bel.size)⟩
      clear b1 hE HE HC HF
      go_wp2_with (refine wpList_store_row rfl 63 _ _ rfl w.heap.size (V (gl (ext (letN (z : Int) (ru, uu)).1) (ext (letN (z : Int) (ru, uu)).2) n)).toArray rfl rfl 63 (V (gl (ext ru) (ext uu) n)).toArray AF.out.g (size49 GL.out) (by simp [V_len, GL.out, gl_len, ext_len]) (one_V _) ?_)
      have HN : Hid (AR w (w5.setRow w.heap.size (V (gl (ext (letN (z : Int) (ru, uu)).1) (ext (letN (z : Int) (ru, uu)).2) n)).toArray) w2.heap.size (gl (ext (runN (L.take (k + 1)) (r, u)).1) (ext (runN (L.take (k + 1)) (r, u)).2) n)) := Lib.hid (by
        rw [ST.out]
        exact ⟨AF.out.g.row, AF.out.res.rowOther (by omega), AF.out.tab.rowOther (by omega), hB, below_setRow AF.out.bel (Nat.le_refl _) _⟩)
      generalize w5.setRow w.heap.size (V (gl (ext (letN (z : Int) (ru, uu)).1) (ext (letN (z : Int) (ru, uu)).2) n)).toArray = w6 at *
      clear AF
      go_wp2_with fail
      go_roundw
      case rel => exact ⟨k + 1, by omega, by go_num, HN.out⟩
      case measure => simp [intOf]; omega
    · obtain rfl : k = m := by omega
      have e : L.take k = L := List.take_of_length_le (by rw [LL.out]; exact Nat.le_refl _)
      rw [e] at HR; clear e
      have GL := Lib.hid (gl_len (ext_len (runN L (r, u)).1) (ext_len (runN L (r, u)).2) n)
      go_wp2_with (first | (refine wpList_load_row rfl 63 _ rfl w.heap.size rfl 63 (V (gl (ext (runN L (r, u)).1) (ext (runN L (r, u)).2) n)).toArray (0, 0) _ HR.out.g Try.underlying63 rfl (size49 GL.out) ?_) | (refine wpList_store_row rfl 63 _ _ rfl (w.heap.size + 1) (V (gl (ext (runN L (r, u)).1) (ext (runN L (r, u)).2) n)).toArray rfl rfl 63 (V zero49).toArray HR.out.res (size49 GL.out) (by simp [V_len, GL.out, zero49]) (one_V _) ?_))
      exact bodyPost_ret (v := .agg (V (gl (ext (runN L (r, u)).1) (ext (runN L (r, u)).2) n)).toArray) (results_cell_row rfl _ _ (w.heap.size + 1) 63 (V (gl (ext (runN L (r, u)).1) (ext (runN L (r, u)).2) n)).toArray (0, 0) _ rfl HR.out.res.row Try.underlying63 rfl (size49 GL.out)) rfl ⟨rfl, below_setRow HR.out.bel (by omega) _⟩
end Go.Proofs.Ytpmojmhamgcfmaa.la
