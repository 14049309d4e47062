/-
  A gluing renamed.
-/
import Derived.Test.YtabiakcndddmkaaGs
namespace Go.Proofs.Ytabiakcndddmkaa.gl
open Go.ChangeShapes Go.WideShapes Go.ChangeAt Go.RowKit
open Go.Proofs.Ytabiakcndddmkaa.mem Go.Proofs.Ytabiakcndddmkaa.ints Go.Proofs.Ytabiakcndddmkaa.arr Go.Proofs.Ytabiakcndddmkaa.pm Go.Proofs.Ytabiakcndddmkaa.permOk Go.Proofs.Ytabiakcndddmkaa.permOf Go.Proofs.Ytabiakcndddmkaa.inv Go.Proofs.Ytabiakcndddmkaa.fns Go.Proofs.Ytabiakcndddmkaa.sf
set_option linter.unusedVariables false
set_option maxRecDepth 100000

/-- p among 24 elements, renamed by ns. -/
def ren24 (p ns : List Int) : List Int := thenL (thenL (invTo 24 ns 24) p) ns
theorem ren24_len (p ns : List Int) : (ren24 p ns).length = 24 := tab_len _
theorem ren24_sq {p ns : List Int} (hp : Sq p) (hn : Sq ns) : Sq (ren24 p ns) := then_sq (then_sq (inv_sq _) hp) hn
theorem ext_ok {xs : List Int} (h : Ok xs) : Ok (ext xs) := by
  have hl := h.len
  refine ⟨by rw [ext_len]; omega, fun i hi => h.sq.lo i (by rwa [ext_len] at hi), fun i hi => by rw [ext_len] at *; exact h.sq.hi i hi, fun i j hi hj e => ?_⟩
  rw [ext_len] at hi hj
  rw [ext_at hi, ext_at hj] at e
  split at e <;> split at e
  · exact h.inj i j (by assumption) (by assumption) e
  · have := h.hi i (by assumption); omega
  · have := h.hi j (by assumption); omega
  · omega
theorem ren24_ext {n : Nat} {xs ys : List Int} (h : Ok xs) (h' : Ok ys) (lx : xs.length = n) (ly : ys.length = n) : ren24 (ext xs) (ext ys) = ext (renTo n xs ys n) := by
  have hn : n ≤ 24 := by have := h.len; omega
  refine list_eq 24 (ren24_len _ _) (ext_len _) fun i hi => ?_
  rw [ext_at hi, renTo_len]
  by_cases hin : i < n
  · rw [if_pos hin]
    have e := take_ren h h' (by omega)
    rw [lx] at e
    rw [← e]
    unfold ren24
    simp [List.getD, hin]
  · rw [if_neg hin]
    have o := ext_ok h'
    have ey : (ext ys).getD i 0 = (i : Int) := by rw [ext_at hi, if_neg (by omega)]
    have ex : (ext xs).getD i 0 = (i : Int) := by rw [ext_at hi, if_neg (by omega)]
    have a := inv_at o (k := i) (by rw [ext_len]; exact hi)
    rw [ey, ext_len, Int.toNat_natCast] at a
    unfold ren24 thenL
    rw [tab_get _ hi, tab_get _ hi, a, Int.toNat_natCast, ex, Int.toNat_natCast, ey]

set_option maxHeartbeats 8000000 in
theorem renamed_any (p q ns : List Int) (n : Nat) (w : World) (hp : Sq p) (hq : Sq q) (hn : Sq ns) :
    Calls Try.prog 40 #[.agg (V (gl p q n)).toArray, .agg (V ns).toArray] w fun e w' => e = .returned (.agg (V (gl (ren24 p ns) (ren24 q ns) n)).toArray) ∧ Below w.heap.size w w' := by
  have HP := Lib.hid hp; have HQ := Lib.hid hq; have HN := Lib.hid hn; clear hp hq hn
  go_enter Try.func40, Try.ntmps40
  have A3' : Hid (Arr (((w.alloc (.cells (V (gl p q n)).toArray 48)).alloc (.cells (V ns).toArray 46)).alloc (.cells #[.int .i64 0, .int .i64 0, .int .i64 0, .int .i64 0, .int .i64 0, .int .i64 0, .int .i64 0, .int .i64 0, .int .i64 0, .int .i64 0, .int .i64 0, .int .i64 0, .int .i64 0, .int .i64 0, .int .i64 0, .int .i64 0, .int .i64 0, .int .i64 0, .int .i64 0, .int .i64 0, .int .i64 0, .int .i64 0, .int .i64 0, .int .i64 0, .int .i64 0, .int .i64 0, .int .i64 0, .int .i64 0, .int .i64 0, .int .i64 0, .int .i64 0, .int .i64 0, .int .i64 0, .int .i64 0, .int .i64 0, .int .i64 0, .int .i64 0, .int .i64 0, .int .i64 0, .int .i64 0, .int .i64 0, .int .i64 0, .int .i64 0, .int .i64 0, .int .i64 0, .int .i64 0, .int .i64 0, .int .i64 0, .int .i64 0] 48)) (w.heap.size + 1) (V ns) 46) := Lib.hid ((Arr.new _ (V ns) _ (by simp)).alloc _)
  go_wp2_with (refine wpList_load_row rfl 46 (.tmp 3) rfl (w.heap.size + 1) rfl 46 (V ns).toArray (0, 0) _ A3'.out Try.underlying46 rfl (size_V HN.out.len) ?_)
  generalize hw1 : ((w.alloc (.cells (V (gl p q n)).toArray 48)).alloc (.cells (V ns).toArray 46)).alloc (.cells #[.int .i64 0, .int .i64 0, .int .i64 0, .int .i64 0, .int .i64 0, .int .i64 0, .int .i64 0, .int .i64 0, .int .i64 0, .int .i64 0, .int .i64 0, .int .i64 0, .int .i64 0, .int .i64 0, .int .i64 0, .int .i64 0, .int .i64 0, .int .i64 0, .int .i64 0, .int .i64 0, .int .i64 0, .int .i64 0, .int .i64 0, .int .i64 0, .int .i64 0, .int .i64 0, .int .i64 0, .int .i64 0, .int .i64 0, .int .i64 0, .int .i64 0, .int .i64 0, .int .i64 0, .int .i64 0, .int .i64 0, .int .i64 0, .int .i64 0, .int .i64 0, .int .i64 0, .int .i64 0, .int .i64 0, .int .i64 0, .int .i64 0, .int .i64 0, .int .i64 0, .int .i64 0, .int .i64 0, .int .i64 0, .int .i64 0] 48) = w1
  have A2 : Hid (Arr w1 w.heap.size (V (gl p q n)) 48) := Lib.hid (by rw [← hw1]; exact ((Arr.new w _ _ rfl).alloc _).alloc _)
  have A3 : Hid (Arr w1 (w.heap.size + 1) (V ns) 46) := Lib.hid (by rw [← hw1]; exact A3'.out)
  have A4 : Hid (Arr w1 (w.heap.size + 2) (V zero49) 48) := Lib.hid (by rw [← hw1]; exact Arr.new _ (V zero49) _ (by simp))
  have B1 : Hid (Below w.heap.size w w1) := Lib.hid (by rw [← hw1]; exact (((Below.refl _ _).alloc (Nat.le_refl _) _).alloc (by simp) _).alloc (by simp <;> omega) _)
  have s1 : w1.heap.size = w.heap.size + 3 := by rw [← hw1]; simp
  clear hw1 A3'
  refine (inverse_any ns _ HN.out).mono ?_
  rintro e w2 ⟨rfl, b1⟩
  have s2 := b1.size
  replace A2 := Lib.hid (A2.out.keep b1 A2.out.lt)
  replace A3 := Lib.hid (A3.out.keep b1 A3.out.lt)
  replace A4 := Lib.hid (A4.out.keep b1 A4.out.lt)
  replace B1 := Lib.hid (B1.out.trans (b1.mono B1.out.size))
  clear b1
  go_wp2_with (refine wpList_store_row rfl 46 (.tmp 5) (.tmp 7) rfl w2.heap.size (V (invTo 24 ns 24)).toArray rfl rfl 46 (V zeros).toArray (Arr.new w2 (V zeros) _ rfl) (size_V (invTo_len _ _ _)) (by simp [V_len, invTo_len, zeros]) (one_V _) ?_; generalize hw3 : (w2.alloc (.cells #[.int .i64 0, .int .i64 0, .int .i64 0, .int .i64 0, .int .i64 0, .int .i64 0, .int .i64 0, .int .i64 0, .int .i64 0, .int .i64 0, .int .i64 0, .int .i64 0, .int .i64 0, .int .i64 0, .int .i64 0, .int .i64 0, .int .i64 0, .int .i64 0, .int .i64 0, .int .i64 0, .int .i64 0, .int .i64 0, .int .i64 0, .int .i64 0] 46)).setRow w2.heap.size (V (invTo 24 ns 24)).toArray = w3; have A5 : Hid (Arr w3 w2.heap.size (V (invTo 24 ns 24)) 46) := Lib.hid (by rw [← hw3]; exact (Arr.new w2 (V zeros) _ rfl).row); have b1 : Below w2.heap.size w2 w3 := (by rw [← hw3]; exact arr.below_setRow ((Below.refl _ _).alloc (Nat.le_refl _) _) (Nat.le_refl _) _); have s3 : w3.heap.size = w2.heap.size + 1 := (by rw [← hw3]; simp); replace A2 := Lib.hid (A2.out.keep b1 A2.out.lt); replace A3 := Lib.hid (A3.out.keep b1 A3.out.lt); replace A4 := Lib.hid (A4.out.keep b1 A4.out.lt); replace B1 := Lib.hid (B1.out.trans (b1.mono B1.out.size)); clear hw3 b1)
  refine wp_region_held_drew (S := Hld w.heap.size w3.heap.size w3 [(w.heap.size, V (gl p q n)), (w.heap.size + 1, V ns), (w2.heap.size, V (invTo 24 ns 24))]) (by kernel_rfl) ((Hld.start3 A2.out A3.out A5.out).lower (by omega)) (fun hHeld => ?_)
  have b1 : Below w3.heap.size w3 w3.drew := ⟨rfl, rfl, rfl, Nat.le_refl _, fun _ _ => rfl⟩
  generalize w3.drew = w4 at *
  have s4 := b1.size
  replace A4 := Lib.hid (A4.out.keep b1 A4.out.lt)
  replace B1 := Lib.hid (B1.out.trans (b1.mono B1.out.size))
  clear b1 A2 A3 A5
  refine wpAnyH_take (i := 1) (v := .pointer (some ⟨w.heap.size, 0, none⟩)) rfl (by kernel_rfl) (by kernel_rfl) (by kernel_rfl) (fun _ _ _ h => h) (Or.inl ⟨by rfl, fun w hSw => by go_simp⟩) hHeld ?_
  refine wpAnyH_take (i := 7) (v := .pointer (some ⟨w.heap.size, 24, none⟩)) rfl (by kernel_rfl) (by kernel_rfl) (by kernel_rfl) (fun _ _ _ h => h) (Or.inl ⟨by rfl, fun w hSw => by go_simp⟩) hHeld ?_
  refine wpAnyH_take (i := 12) (v := .pointer (some ⟨w.heap.size, 48, none⟩)) rfl (by kernel_rfl) (by kernel_rfl) (by kernel_rfl) (fun _ _ _ h => h) (Or.inl ⟨by rfl, fun w hSw => by go_simp⟩) hHeld ?_
  refine wpAnyH_take (i := 0) (v := .agg (V (invTo 24 ns 24)).toArray) rfl (by kernel_rfl) (by kernel_rfl) (by kernel_rfl) (fun _ _ _ h => h) (yieldsIf_load_mid (by rfl) _ _ rfl (w2.heap.size) 0 rfl (V (invTo 24 ns 24)) _ (fun w h => h.trd) Try.underlying46 rfl (hi24 (invTo_len _ _ _))) hHeld ?_
  refine wpAnyH_take (i := 6) (v := .agg (V (invTo 24 ns 24)).toArray) rfl (by kernel_rfl) (by kernel_rfl) (by kernel_rfl) (fun _ _ _ h => h) (yieldsIf_load_mid (by rfl) _ _ rfl (w2.heap.size) 0 rfl (V (invTo 24 ns 24)) _ (fun w h => h.trd) Try.underlying46 rfl (hi24 (invTo_len _ _ _))) hHeld ?_
  refine wpAnyH_take (i := 2) (v := .agg (V p).toArray) rfl (by kernel_rfl) (by kernel_rfl) (by kernel_rfl) (fun _ _ _ h => h) (yieldsIf_load_mid (by rfl) _ _ rfl (w.heap.size) 0 rfl (V p) _ (fun w h => rg_right HP.out.len h.fst) Try.underlying46 rfl (hi24 HP.out.len)) hHeld ?_
  refine wpAnyH_take (i := 8) (v := .agg (V q).toArray) rfl (by kernel_rfl) (by kernel_rfl) (by kernel_rfl) (fun _ _ _ h => h) (yieldsIf_load_mid (by rfl) _ _ rfl (w.heap.size) 24 rfl (V q) _ (fun w h => rg_up HP.out.len HQ.out.len h.fst) Try.underlying46 rfl (hi24 HQ.out.len)) hHeld ?_
  refine wpAnyH_take (i := 4) (v := .agg (V ns).toArray) rfl (by kernel_rfl) (by kernel_rfl) (by kernel_rfl) (fun _ _ _ h => h) (yieldsIf_load_mid (by rfl) _ _ rfl (w.heap.size + 1) 0 rfl (V ns) _ (fun w h => h.snd) Try.underlying46 rfl (hi24 HN.out.len)) hHeld ?_
  refine wpAnyH_take (i := 10) (v := .agg (V ns).toArray) rfl (by kernel_rfl) (by kernel_rfl) (by kernel_rfl) (fun _ _ _ h => h) (yieldsIf_load_mid (by rfl) _ _ rfl (w.heap.size + 1) 0 rfl (V ns) _ (fun w h => h.snd) Try.underlying46 rfl (hi24 HN.out.len)) hHeld ?_
  refine wpAnyH_take (i := 13) (v := .int .i64 n) rfl (by kernel_rfl) (by kernel_rfl) (by kernel_rfl) (fun _ _ _ h => h) (Or.inl ⟨by rfl, fun w hSw => by have := rg_count HP.out.len HQ.out.len hSw.fst; go_simp⟩) hHeld ?_
  refine wpAnyH_ready (rs := [3]) (by kernel_rfl) (by simp) (AllReadyH.cons rfl (fun K hK => ?_) AllReadyH.nil)
  go_simp
  refine (inv.then_any (invTo 24 ns 24) p _ (inv_sq _) HP.out).mono ?_
  rintro e w' ⟨rfl, b1⟩
  replace A4 := Lib.hid (A4.out.keep b1 A4.out.lt)
  replace B1 := Lib.hid (B1.out.trans (b1.mono B1.out.size))
  go_wp2_with fail
  have hHeld2 := hHeld.later b1 (by omega); clear b1 hHeld
  refine hK.out _ _ hHeld2 (fun hHeld => ?_)
  clear hK K hHeld2
  refine wpAnyH_ready (rs := [5]) (by kernel_rfl) (by simp) (AllReadyH.cons rfl (fun K hK => ?_) AllReadyH.nil)
  go_simp
  refine (inv.then_any (thenL (invTo 24 ns 24) p) ns _ (then_sq (inv_sq _) HP.out) HN.out).mono ?_
  rintro e w' ⟨rfl, b1⟩
  replace A4 := Lib.hid (A4.out.keep b1 A4.out.lt)
  replace B1 := Lib.hid (B1.out.trans (b1.mono B1.out.size))
  go_wp2_with fail
  have hHeld2 := hHeld.later b1 (by omega); clear b1 hHeld
  refine hK.out _ _ hHeld2 (fun hHeld => ?_)
  clear hK K hHeld2
  refine wpAnyH_ready (rs := [9]) (by kernel_rfl) (by simp) (AllReadyH.cons rfl (fun K hK => ?_) AllReadyH.nil)
  go_simp
  refine (inv.then_any (invTo 24 ns 24) q _ (inv_sq _) HQ.out).mono ?_
  rintro e w' ⟨rfl, b1⟩
  replace A4 := Lib.hid (A4.out.keep b1 A4.out.lt)
  replace B1 := Lib.hid (B1.out.trans (b1.mono B1.out.size))
  go_wp2_with fail
  have hHeld2 := hHeld.later b1 (by omega); clear b1 hHeld
  refine hK.out _ _ hHeld2 (fun hHeld => ?_)
  clear hK K hHeld2
  refine wpAnyH_ready (rs := [11]) (by kernel_rfl) (by simp) (AllReadyH.cons rfl (fun K hK => ?_) AllReadyH.nil)
  go_simp
  refine (inv.then_any (thenL (invTo 24 ns 24) q) ns _ (then_sq (inv_sq _) HQ.out) HN.out).mono ?_
  rintro e w' ⟨rfl, b1⟩
  replace A4 := Lib.hid (A4.out.keep b1 A4.out.lt)
  replace B1 := Lib.hid (B1.out.trans (b1.mono B1.out.size))
  go_wp2_with fail
  have hHeld2 := hHeld.later b1 (by omega); clear b1 hHeld
  refine hK.out _ _ hHeld2 (fun hHeld => ?_)
  clear hK K hHeld2
  refine wpAnyH_ready (rs := [14]) (by kernel_rfl) (by simp) (AllReadyH.cons rfl (fun K hK => ?_) AllReadyH.nil)
  refine step_build rfl 48 _ rfl [(0, .agg (V (ren24 p ns)).toArray), (1, .agg (V (ren24 q ns)).toArray), (2, .int .i64 n)] rfl (V (gl (ren24 p ns) (ren24 q ns) n)).toArray (built_gl (ren24_len _ _) (ren24_len _ _) n) ?_
  refine hK.out _ _ hHeld (fun hHeld2 => ?_)
  clear hK K hHeld2
  refine wpAnyH_ready (rs := [15]) (by kernel_rfl) (by simp) (AllReadyH.cons rfl (fun K hK => ?_) AllReadyH.nil)
  refine step_store_row rfl 48 _ _ rfl (w.heap.size + 2) (V (gl (ren24 p ns) (ren24 q ns) n)).toArray rfl rfl 48 (V zero49).toArray A4.out (size49 (gl_len (ren24_len _ _) (ren24_len _ _) n)) (by simp [V_len, gl_len, ren24_len, zero49]) (one_V _) ?_
  refine hK.out _ _ (hHeld.other (by omega) (by simp; omega) _) (fun hHeld2 => ?_)
  clear hK K hHeld2
  refine wpAnyH_done (by kernel_rfl) ?_ _
  go_wp2_with fail
  exact bodyPost_ret (v := .agg (V (gl (ren24 p ns) (ren24 q ns) n)).toArray) (results_cell_row rfl _ _ (w.heap.size + 2) 48 (V (gl (ren24 p ns) (ren24 q ns) n)).toArray (0, 0) _ rfl A4.out.row Try.underlying48 rfl (size49 (gl_len (ren24_len _ _) (ren24_len _ _) n))) rfl ⟨rfl, below_setRow B1.out (by omega) _⟩
end Go.Proofs.Ytabiakcndddmkaa.gl
