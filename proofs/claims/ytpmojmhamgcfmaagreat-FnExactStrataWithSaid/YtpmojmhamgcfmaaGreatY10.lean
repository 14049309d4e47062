import Derived.Test.YtpmojmhamgcfmaaGreatY09
/-
  A gluing renamed.
-/
namespace Go.Proofs.YtpmojmhamgcfmaaGreat.gl
open Go.ChangeShapes Go.WideShapes Go.ChangeAt Go.RowKit
open Go.Proofs.YtpmojmhamgcfmaaGreat.mem Go.Proofs.YtpmojmhamgcfmaaGreat.ints Go.Proofs.YtpmojmhamgcfmaaGreat.arr Go.Proofs.YtpmojmhamgcfmaaGreat.pm Go.Proofs.YtpmojmhamgcfmaaGreat.permOk Go.Proofs.YtpmojmhamgcfmaaGreat.permOf Go.Proofs.YtpmojmhamgcfmaaGreat.inv Go.Proofs.YtpmojmhamgcfmaaGreat.fns Go.Proofs.YtpmojmhamgcfmaaGreat.sf
set_option linter.unusedVariables false
set_option maxRecDepth 100000

/-- p among 24 elements, renamed by ns. -/
def ren24 (p ns : List Int) : List Int := thenL (thenL (invTo 24 ns 24) p) ns
theorem ren24_len (p ns : List Int) : (ren24 p ns).length = 24 := tab_len _
theorem ren24_sq {p ns : List Int} (hp : Sq p) (hn : Sq ns) : Sq (ren24 p ns) := then_sq (then_sq (inv_sq _) hp) hn
theorem ext_ok {xs : List Int} (h : Ok xs) : Ok (ext xs) := by
  have hl := h.len
  refine ⟨by rw [ext_len]; omega, fun i hi => h.sq.lo i (by rwa [ext_len] at hi), fun i hi => by rw [ext_len] at *; exact h.sq.hi i hi, fun i j hi hj e => ?_⟩
  rw [ext_len] at hi hj
  rw [ext_at hi, ext_at hj] at e
  split at e <;> split at e
  · exact h.inj i j (by assumption) (by assumption) e
  · have := h.hi i (by assumption); omega
  · have := h.hi j (by assumption); omega
  · omega
theorem ren24_ext {n : Nat} {xs ys : List Int} (h : Ok xs) (h' : Ok ys) (lx : xs.length = n) (ly : ys.length = n) : ren24 (ext xs) (ext ys) = ext (renTo n xs ys n) := by
  have hn : n ≤ 24 := by have := h.len; omega
  refine list_eq 24 (ren24_len _ _) (ext_len _) fun i hi => ?_
  rw [ext_at hi, renTo_len]
  by_cases hin : i < n
  · rw [if_pos hin]
    have e := take_ren h h' (by omega)
    rw [lx] at e
    rw [← e]
    unfold ren24
    simp [List.getD, hin]
  · rw [if_neg hin]
    have o := ext_ok h'
    have ey : (ext ys).getD i 0 = (i : Int) := by rw [ext_at hi, if_neg (by omega)]
    have ex : (ext xs).getD i 0 = (i : Int) := by rw [ext_at hi, if_neg (by omega)]
    have a := inv_at o (k := i) (by rw [ext_len]; exact hi)
    rw [ey, ext_len, Int.toNat_natCast] at a
    unfold ren24 thenL
    rw [tab_get _ hi, tab_get _ hi, a, Int.toNat_natCast, ex, Int.toNat_natCast, ey]

set_option maxHeartbeats 8000000 in
theorem renamed_any (p q ns : List Int) (n : Nat) (w : World) (hp : Sq p) (hq : Sq q) (hn : Sq ns) :
    Calls Tryz.prog 79 #[.agg (V (gl p q n)).toArray, .agg (V ns).toArray] w fun e w' => e = .returned (.agg (V (gl (ren24 p ns) (ren24 q ns) n)).toArray) ∧ Below w.heap.size w w' := by
  have HP := Lib.hid hp; have HQ := Lib.hid hq; have HN := Lib.hid hn; clear hp hq hn
  go_enter Tryz.func79, Tryz.ntmps79
  have A3' : Hid (Arr (((w.alloc (.cells (V (gl p q n)).toArray 62)).alloc (.cells (V ns).toArray 60)).alloc (.cells #[.int .i64 0, .int .i64 0, .int .i64 0, .int .i64 0, .int .i64 0, .int .i64 0, .int .i64 0, .int .i64 0, .int .i64 0, .int .i64 0, .int .i64 0, .int .i64 0, .int .i64 0, .int .i64 0, .int .i64 0, .int .i64 0, .int .i64 0, .int .i64 0, .int .i64 0, .int .i64 0, .int .i64 0, .int .i64 0, .int .i64 0, .int .i64 0, .int .i64 0, .int .i64 0, .int .i64 0, .int .i64 0, .int .i64 0, .int .i64 0, .int .i64 0, .int .i64 0, .int .i64 0, .int .i64 0, .int .i64 0, .int .i64 0, .int .i64 0, .int .i64 0, .int .i64 0, .int .i64 0, .int .i64 0, .int .i64 0, .int .i64 0, .int .i64 0, .int .i64 0, .int .i64 0, .int .i64 0, .int .i64 0, .int .i64 0] 62)) (w.heap.size + 1) (V ns) 60) := Lib.hid ((Arr.new _ (V ns) _ (by simp)).alloc _)
  go_wp2_with (refine wpList_load_row rfl 60 (.tmp 3) rfl (w.heap.size + 1) rfl 60 (V ns).toArray (0, 0) _ A3'.out Tryz.underlying60 rfl (size_V HN.out.len) ?_)
  generalize hw1 : ((w.alloc (.cells (V (gl p q n)).toArray 62)).alloc (.cells (V ns).toArray 60)).alloc (.cells #[.int .i64 0, .int .i64 0, .int .i64 0, .int .i64 0, .int .i64 0, .int .i64 0, .int .i64 0, .int .i64 0, .int .i64 0, .int .i64 0, .int .i64 0, .int .i64 0, .int .i64 0, .int .i64 0, .int .i64 0, .int .i64 0, .int .i64 0, .int .i64 0, .int .i64 0, .int .i64 0, .int .i64 0, .int .i64 0, .int .i64 0, .int .i64 0, .int .i64 0, .int .i64 0, .int .i64 0, .int .i64 0, .int .i64 0, .int .i64 0, .int .i64 0, .int .i64 0, .int .i64 0, .int .i64 0, .int .i64 0, .int .i64 0, .int .i64 0, .int .i64 0, .int .i64 0, .int .i64 0, .int .i64 0, .int .i64 0, .int .i64 0, .int .i64 0, .int .i64 0, .int .i64 0, .int .i64 0, .int .i64 0, .int .i64 0] 62) = w1
  have A2 : Hid (Arr w1 w.heap.size (V (gl p q n)) 62) := Lib.hid (by rw [← hw1]; exact ((Arr.new w _ _ rfl).alloc _).alloc _)
  have A3 : Hid (Arr w1 (w.heap.size + 1) (V ns) 60) := Lib.hid (by rw [← hw1]; exact A3'.out)
  have A4 : Hid (Arr w1 (w.heap.size + 2) (V zero49) 62) := Lib.hid (by rw [← hw1]; exact Arr.new _ (V zero49) _ (by simp))
  have B1 : Hid (Below w.heap.size w w1) := Lib.hid (by rw [← hw1]; exact (((Below.refl _ _).alloc (Nat.le_refl _) _).alloc (by simp) _).alloc (by simp <;> omega) _)
  have s1 : w1.heap.size = w.heap.size + 3 := by rw [← hw1]; simp
  clear hw1 A3'
  refine (inverse_any ns _ HN.out).mono ?_
  rintro e w2 ⟨rfl, b1⟩
  have s2 := b1.size
  replace A2 := Lib.hid (A2.out.keep b1 A2.out.lt)
  replace A3 := Lib.hid (A3.out.keep b1 A3.out.lt)
  replace A4 := Lib.hid (A4.out.keep b1 A4.out.lt)
  replace B1 := Lib.hid (B1.out.trans (b1.mono B1.out.size))
  clear b1
  go_wp2_with (refine wpList_store_row rfl 60 (.tmp 5) (.tmp 7) rfl w2.heap.size (V (invTo 24 ns 24)).toArray rfl rfl 60 (V zeros).toArray (Arr.new w2 (V zeros) _ rfl) (size_V (invTo_len _ _ _)) (by simp [V_len, invTo_len, zeros]) (one_V _) ?_; generalize hw3 : (w2.alloc (.cells #[.int .i64 0, .int .i64 0, .int .i64 0, .int .i64 0, .int .i64 0, .int .i64 0, .int .i64 0, .int .i64 0, .int .i64 0, .int .i64 0, .int .i64 0, .int .i64 0, .int .i64 0, .int .i64 0, .int .i64 0, .int .i64 0, .int .i64 0, .int .i64 0, .int .i64 0, .int .i64 0, .int .i64 0, .int .i64 0, .int .i64 0, .int .i64 0] 60)).setRow w2.heap.size (V (invTo 24 ns 24)).toArray = w3; have A5 : Hid (Arr w3 w2.heap.size (V (invTo 24 ns 24)) 60) := Lib.hid (by rw [← hw3]; exact (Arr.new w2 (V zeros) _ rfl).row); have b1 : Below w2.heap.size w2 w3 := (by rw [← hw3]; exact arr.below_setRow ((Below.refl _ _).alloc (Nat.le_refl _) _) (Nat.le_refl _) _); have s3 : w3.heap.size = w2.heap.size + 1 := (by rw [← hw3]; simp); replace A2 := Lib.hid (A2.out.keep b1 A2.out.lt); replace A3 := Lib.hid (A3.out.keep b1 A3.out.lt); replace A4 := Lib.hid (A4.out.keep b1 A4.out.lt); replace B1 := Lib.hid (B1.out.trans (b1.mono B1.out.size)); clear hw3 b1)
  refine wp_region_held_drew (S := Hld w.heap.size w3.heap.size w3 [(w.heap.size, V (gl p q n)), (w.heap.size + 1, V ns), (w2.heap.size, V (invTo 24 ns 24))]) (by kernel_rfl) ((Hld.start3 A2.out A3.out A5.out).lower (by omega)) (fun hHeld => ?_)
  have b1 : Below w3.heap.size w3 w3.drew := ⟨rfl, rfl, rfl, Nat.le_refl _, fun _ _ => rfl⟩
  generalize w3.drew = w4 at *
  have s4 := b1.size
  replace A4 := Lib.hid (A4.out.keep b1 A4.out.lt)
  replace B1 := Lib.hid (B1.out.trans (b1.mono B1.out.size))
  clear b1 A2 A3 A5
  refine wpAnyH_take (i := 1) (v := .pointer (some ⟨w.heap.size, 0, none⟩)) rfl (by kernel_rfl) (by kernel_rfl) (by kernel_rfl) (fun _ _ _ h => h) (Or.inl ⟨by rfl, fun w hSw => by go_simp⟩) hHeld ?_
  refine wpAnyH_take (i := 7) (v := .pointer (some ⟨w.heap.size, 24, none⟩)) rfl (by kernel_rfl) (by kernel_rfl) (by kernel_rfl) (fun _ _ _ h => h) (Or.inl ⟨by rfl, fun w hSw => by go_simp⟩) hHeld ?_
  refine wpAnyH_take (i := 12) (v := .pointer (some ⟨w.heap.size, 48, none⟩)) rfl (by kernel_rfl) (by kernel_rfl) (by kernel_rfl) (fun _ _ _ h => h) (Or.inl ⟨by rfl, fun w hSw => by go_simp⟩) hHeld ?_
  refine wpAnyH_take (i := 0) (v := .agg (V (invTo 24 ns 24)).toArray) rfl (by kernel_rfl) (by kernel_rfl) (by kernel_rfl) (fun _ _ _ h => h) (yieldsIf_load_mid (by rfl) _ _ rfl (w2.heap.size) 0 rfl (V (invTo 24 ns 24)) _ (fun w h => h.trd) Tryz.underlying60 rfl (hi24 (invTo_len _ _ _))) hHeld ?_
  refine wpAnyH_take (i := 6) (v := .agg (V (invTo 24 ns 24)).toArray) rfl (by kernel_rfl) (by kernel_rfl) (by kernel_rfl) (fun _ _ _ h => h) (yieldsIf_load_mid (by rfl) _ _ rfl (w2.heap.size) 0 rfl (V (invTo 24 ns 24)) _ (fun w h => h.trd) Tryz.underlying60 rfl (hi24 (invTo_len _ _ _))) hHeld ?_
  refine wpAnyH_take (i := 2) (v := .agg (V p).toArray) rfl (by kernel_rfl) (by kernel_rfl) (by kernel_rfl) (fun _ _ _ h => h) (yieldsIf_load_mid (by rfl) _ _ rfl (w.heap.size) 0 rfl (V p) _ (fun w h => rg_right HP.out.len h.fst) Tryz.underlying60 rfl (hi24 HP.out.len)) hHeld ?_
  refine wpAnyH_take (i := 8) (v := .agg (V q).toArray) rfl (by kernel_rfl) (by kernel_rfl) (by kernel_rfl) (fun _ _ _ h => h) (yieldsIf_load_mid (by rfl) _ _ rfl (w.heap.size) 24 rfl (V q) _ (fun w h => rg_up HP.out.len HQ.out.len h.fst) Tryz.underlying60 rfl (hi24 HQ.out.len)) hHeld ?_
  refine wpAnyH_take (i := 4) (v := .agg (V ns).toArray) rfl (by kernel_rfl) (by kernel_rfl) (by kernel_rfl) (fun _ _ _ h => h) (yieldsIf_load_mid (by rfl) _ _ rfl (w.heap.size + 1) 0 rfl (V ns) _ (fun w h => h.snd) Tryz.underlying60 rfl (hi24 HN.out.len)) hHeld ?_
  refine wpAnyH_take (i := 10) (v := .agg (V ns).toArray) rfl (by kernel_rfl) (by kernel_rfl) (by kernel_rfl) (fun _ _ _ h => h) (yieldsIf_load_mid (by rfl) _ _ rfl (w.heap.size + 1) 0 rfl (V ns) _ (fun w h => h.snd) Tryz.underlying60 rfl (hi24 HN.out.len)) hHeld ?_
  refine wpAnyH_take (i := 13) (v := .int .i64 n) rfl (by kernel_rfl) (by kernel_rfl) (by kernel_rfl) (fun _ _ _ h => h) (Or.inl ⟨by rfl, fun w hSw => by have := rg_count HP.out.len HQ.out.len hSw.fst; go_simp⟩) hHeld ?_
  refine wpAnyH_ready (rs := [3]) (by kernel_rfl) (by simp) (AllReadyH.cons rfl (fun K hK => ?_) AllReadyH.nil)
  go_simp
  refine (inv.then_any (invTo 24 ns 24) p _ (inv_sq _) HP.out).mono ?_
  rintro e w' ⟨rfl, b1⟩
  replace A4 := Lib.hid (A4.out.keep b1 A4.out.lt)
  replace B1 := Lib.hid (B1.out.trans (b1.mono B1.out.size))
  go_wp2_with fail
  have hHeld2 := hHeld.later b1 (by omega); clear b1 hHeld
  refine hK.out _ _ hHeld2 (fun hHeld => ?_)
  clear hK K hHeld2
  refine wpAnyH_ready (rs := [5]) (by kernel_rfl) (by simp) (AllReadyH.cons rfl (fun K hK => ?_) AllReadyH.nil)
  go_simp
  refine (inv.then_any (thenL (invTo 24 ns 24) p) ns _ (then_sq (inv_sq _) HP.out) HN.out).mono ?_
  rintro e w' ⟨rfl, b1⟩
  replace A4 := Lib.hid (A4.out.keep b1 A4.out.lt)
  replace B1 := Lib.hid (B1.out.trans (b1.mono B1.out.size))
  go_wp2_with fail
  have hHeld2 := hHeld.later b1 (by omega); clear b1 hHeld
  refine hK.out _ _ hHeld2 (fun hHeld => ?_)
  clear hK K hHeld2
  refine wpAnyH_ready (rs := [9]) (by kernel_rfl) (by simp) (AllReadyH.cons rfl (fun K hK => ?_) AllReadyH.nil)
  go_simp
  refine (inv.then_any (invTo 24 ns 24) q _ (inv_sq _) HQ.out).mono ?_
  rintro e w' ⟨rfl, b1⟩
  replace A4 := Lib.hid (A4.out.keep b1 A4.out.lt)
  replace B1 := Lib.hid (B1.out.trans (b1.mono B1.out.size))
  go_wp2_with fail
  have hHeld2 := hHeld.later b1 (by omega); clear b1 hHeld
  refine hK.out _ _ hHeld2 (fun hHeld => ?_)
  clear hK K hHeld2
  refine wpAnyH_ready (rs := [11]) (by kernel_rfl) (by simp) (AllReadyH.cons rfl (fun K hK => ?_) AllReadyH.nil)
  go_simp
  refine (inv.then_any (thenL (invTo 24 ns 24) q) ns _ (then_sq (inv_sq _) HQ.out) HN.out).mono ?_
  rintro e w' ⟨rfl, b1⟩
  replace A4 := Lib.hid (A4.out.keep b1 A4.out.lt)
  replace B1 := Lib.hid (B1.out.trans (b1.mono B1.out.size))
  go_wp2_with fail
  have hHeld2 := hHeld.later b1 (by omega); clear b1 hHeld
  refine hK.out _ _ hHeld2 (fun hHeld => ?_)
  clear hK K hHeld2
  refine wpAnyH_ready (rs := [14]) (by kernel_rfl) (by simp) (AllReadyH.cons rfl (fun K hK => ?_) AllReadyH.nil)
  refine step_build rfl 62 _ rfl [(0, .agg (V (ren24 p ns)).toArray), (1, .agg (V (ren24 q ns)).toArray), (2, .int .i64 n)] rfl (V (gl (ren24 p ns) (ren24 q ns) n)).toArray (built_gl (ren24_len _ _) (ren24_len _ _) n) ?_
  refine hK.out _ _ hHeld (fun hHeld2 => ?_)
  clear hK K hHeld2
  refine wpAnyH_ready (rs := [15]) (by kernel_rfl) (by simp) (AllReadyH.cons rfl (fun K hK => ?_) AllReadyH.nil)
  refine step_store_row rfl 62 _ _ rfl (w.heap.size + 2) (V (gl (ren24 p ns) (ren24 q ns) n)).toArray rfl rfl 62 (V zero49).toArray A4.out (size49 (gl_len (ren24_len _ _) (ren24_len _ _) n)) (by simp [V_len, gl_len, ren24_len, zero49]) (one_V _) ?_
  refine hK.out _ _ (hHeld.other (by omega) (by simp; omega) _) (fun hHeld2 => ?_)
  clear hK K hHeld2
  refine wpAnyH_done (by kernel_rfl) ?_ _
  go_wp2_with fail
  exact bodyPost_ret (v := .agg (V (gl (ren24 p ns) (ren24 q ns) n)).toArray) (results_cell_row rfl _ _ (w.heap.size + 2) 62 (V (gl (ren24 p ns) (ren24 q ns) n)).toArray (0, 0) _ rfl A4.out.row Tryz.underlying62 rfl (size49 (gl_len (ren24_len _ _) (ren24_len _ _) n))) rfl ⟨rfl, below_setRow B1.out (by omega) _⟩
end Go.Proofs.YtpmojmhamgcfmaaGreat.gl

/-
  The names from a square, as the program finds them.
-/
namespace Go.Proofs.YtpmojmhamgcfmaaGreat.gl
open Go.ChangeShapes Go.WideShapes Go.ChangeAt Go.RowKit
open Go.Proofs.YtpmojmhamgcfmaaGreat.mem Go.Proofs.YtpmojmhamgcfmaaGreat.ints Go.Proofs.YtpmojmhamgcfmaaGreat.arr Go.Proofs.YtpmojmhamgcfmaaGreat.pm Go.Proofs.YtpmojmhamgcfmaaGreat.permOk Go.Proofs.YtpmojmhamgcfmaaGreat.permOf Go.Proofs.YtpmojmhamgcfmaaGreat.inv Go.Proofs.YtpmojmhamgcfmaaGreat.fns Go.Proofs.YtpmojmhamgcfmaaGreat.sf
set_option linter.unusedVariables false
set_option maxRecDepth 100000

/-- The names behind k rounds. -/
def nms (ps qs : List Int) (f : Int) : Nat → List Int
  | 0 => idl
  | k + 1 => (nms ps qs f k).set ((rs ps qs f k).getD k 0).toNat (k : Int)
theorem nms_len (ps qs : List Int) (f : Int) (k : Nat) : (nms ps qs f k).length = 24 := by
  induction k with
  | zero => exact tab_len _
  | succ k ih => rw [nms, List.length_set]; exact ih
def nmsF (ps qs : List Int) (f : Int) : List Int := nms ps qs f (reach ps qs f).length
theorem nms_at {ps qs : List Int} (hp : Maps 24 ps) (hq : Maps 24 qs) (l24 : ps.length = 24) {f : Int} (f0 : 0 ≤ f) (f1 : f < 24) : ∀ k, k ≤ (reach ps qs f).length →
    (∀ j, j < k → (nms ps qs f k).getD ((reach ps qs f).getD j 0).toNat 0 = (j : Int)) ∧ (∀ i : Nat, i < 24 → (∀ j, j < k → (reach ps qs f).getD j 0 ≠ (i : Int)) → (nms ps qs f k).getD i 0 = (i : Int)) := by
  intro k
  induction k with
  | zero => exact fun _ => ⟨fun j hj => by omega, fun i hi _ => tab_get _ hi⟩
  | succ k ih =>
    intro hk
    obtain ⟨h1, h2⟩ := ih (by omega)
    have hin : In 24 (reach ps qs f) := rs_in hp hq f0 f1 _
    have hle := hin.len
    have hk24 : k ≤ 24 := by omega
    have hkk : k < (rs ps qs f k).length := rs_early (m := ps.length) (by unfold reach at hk; omega) (by omega)
    have he : (rs ps qs f k).getD k 0 = (reach ps qs f).getD k 0 := (pre_at (rs_pre ps qs f (by omega)) hkk).symm
    obtain ⟨z, hz, _, hzd⟩ := hin.at_ (k := k) (by omega)
    have hs : nms ps qs f (k + 1) = (nms ps qs f k).set z (k : Int) := by rw [nms, he, hzd]; rfl
    have hl := nms_len ps qs f k
    rw [hs]
    refine ⟨fun j hj => ?_, fun i hi hne => ?_⟩
    · by_cases e : j = k
      · subst e
        rw [hzd, Int.toNat_natCast]
        simp [List.getD, hl, hz]
      · obtain ⟨y, hy, _, hyd⟩ := hin.at_ (k := j) (by omega)
        have hyz : y ≠ z := fun e2 => e (nodup_getD hin.nd (by omega) (by omega) (by rw [hzd, hyd, e2]))
        rw [hyd, Int.toNat_natCast]
        have := h1 j (by omega)
        rw [hyd, Int.toNat_natCast] at this
        rw [← this]
        simp [List.getD, Ne.symm hyz]
    · have hiz : i ≠ z := fun e2 => hne k (by omega) (by rw [hzd, e2])
      rw [← h2 i hi (fun j hj => hne j (by omega))]
      simp [List.getD, Ne.symm hiz]
/-- The program's names are the model's. -/
theorem nmsF_eq {n : Nat} {R U : List Int} (s : Sf n R U) {f : Int} (f0 : 0 ≤ f) (f1 : f < n) : nmsF (ext R) (ext U) f = ext (nm R U f) := by
  have hn : n ≤ 24 := by have := s.r.len; have := s.lr; omega
  have er : reach (ext R) (ext U) f = reach R U f := reach_ext s.r s.u (by rw [s.lr, s.lu]) f0 (by rw [s.lr]; exact f1)
  have fl := s.flen f0 f1
  obtain ⟨nk, nl⟩ := s.nok f0 f1
  obtain ⟨h1, h2⟩ := nms_at (Sq.maps s.r.sq) (Sq.maps s.u.sq) (ext_len _) f0 (by omega) n (by rw [er, fl]; exact Nat.le_refl _)
  rw [er] at h1 h2
  unfold nmsF
  rw [er, fl]
  refine list_eq 24 (nms_len _ _ _ _) (ext_len _) fun i hi => ?_
  rw [ext_at hi, nl]
  by_cases hin : i < n
  · rw [if_pos hin]
    obtain ⟨k, hk, e⟩ := mem_getD (s.full f0 f1 (y := (i : Int)) (by omega) (by omega))
    have a := h1 k (by omega)
    rw [e, Int.toNat_natCast] at a
    have b := Inv_at (s.rok f0 f1) hk
    rw [e, Int.toNat_natCast] at b
    rw [a]
    exact b.symm
  · rw [if_neg hin]
    exact h2 i hi (fun j hj e => by
      have := (s.inn f0 f1).hi _ (getD_mem (i := j) (l := reach R U f) (by omega))
      omega)

/-- The boxed gluing, the result's box, the names, the flags of l, and the row l that grows. -/
structure Nr (w wr : World) (B : Nat) (p q : List Int) (n : Nat) (v : Value) (l ns : List Int) : Prop where
  own : wr.ownsRow (B + 2) 3 1 v l.length (V l)
  g : Arr wr w.heap.size (V (gl p q n)) 62
  res : Arr wr (w.heap.size + 1) (V zeros) 60
  nm : Arr wr B (V ns) 60
  met : Arr wr (B + 1) (VB (flagsOf l)) 88
  below : Below w.heap.size w wr
  hB : w.heap.size + 2 ≤ B
theorem Nr.drew {w wr : World} {B : Nat} {p q l ns : List Int} {n : Nat} {v : Value} (h : Nr w wr B p q n v l ns) (m : Nat) : Nr w (wr.drewN m) B p q n v l ns := ⟨h.own, h.g, h.res, h.nm, h.met, below_drewN h.below m, h.hB⟩
theorem Nr.ne {w wr : World} {B : Nat} {p q l ns : List Int} {n : Nat} {v : Value} (h : Nr w wr B p q n v l ns) {k : Nat} (hk : k < B + 2) : some k ≠ v.ownBlock := fun e => by
  have := (h.own.lt k e.symm).1; omega
theorem Nr.name {w wr : World} {B : Nat} {p q l ns : List Int} {n : Nat} {v : Value} (h : Nr w wr B p q n v l ns) (z k : Nat) : Nr w (wr.setCell ⟨B, z, none⟩ (.int .i64 (k : Int))) B p q n v l (ns.set z (k : Int)) := by
  have hB := h.hB
  refine ⟨?_, h.g.other (by omega) _, h.res.other (by omega) _, ?_, h.met.other (by omega) _, h.below.setCell (show w.heap.size ≤ B by omega) _, hB⟩
  · exact h.own.kept (row := some B) ⟨rfl, rfl, rfl, by simp [World.setCell], fun i hi hne => heap_setCell_other _ _ _ _ (fun e => hne (by rw [e]))⟩ (.inr (fun e => h.ne (k := B) (by omega) e.symm))
  · have := h.nm.set_ z (.int .i64 (k : Int))
    rw [V_set] at this
    exact this
theorem Nr.next {w wr w1 w' : World} {B : Nat} {p q l ns : List Int} {n m : Nat} {v v' : Value} {z : Nat} (h : Nr w wr B p q n v l ns) (hw1 : w1 = wr.setCell ⟨B + 1, z, none⟩ (.bool true))
    (ho : w'.ownsRow (B + 2) 3 1 v' (m + 1) (V l ++ [.int .i64 (z : Int)])) (hn : m = l.length) (hg : w1.grownBy w' v.ownBlock) (hz : ¬ (z : Int) ∈ l) : Nr w w' B p q n v' (add1 l (z : Int)) ns := by
  subst hn
  have e : V (add1 l (z : Int)) = V l ++ [.int .i64 (z : Int)] := by unfold add1; rw [if_neg hz]; simp [V]
  have el : (add1 l (z : Int)).length = l.length + 1 := by unfold add1; rw [if_neg hz]; simp
  have hB := h.hB
  have g1 := h.g.lt; have g2 := h.res.lt; have g3 := h.nm.lt; have hm := h.met.lt
  have s1 : w1.heap.size = wr.heap.size := by rw [hw1]; simp [World.setCell]
  refine ⟨by rw [e, el]; exact ho, ?_, ?_, ?_, ?_, ?_, hB⟩
  · exact (hg.block _ (by omega) (h.ne (by omega))).trans (by rw [hw1]; exact h.g.other (by omega) _)
  · exact (hg.block _ (by omega) (h.ne (by omega))).trans (by rw [hw1]; exact h.res.other (by omega) _)
  · exact (hg.block _ (by omega) (h.ne (by omega))).trans (by rw [hw1]; exact h.nm.other (by omega) _)
  · refine (hg.block _ (by omega) (h.ne (by omega))).trans ?_
    have hh := h.met.set_ z (.bool true)
    rw [VB_set, flagsOf_add hz, ← hw1] at hh
    exact hh
  · refine Below.trans (b := w1) (by rw [hw1]; exact h.below.setCell (by simp; omega) _) ?_
    exact (Below.refl _ _).grown hg (by have := h.below.size; omega) (fun k hk => by have := (h.own.lt k hk).1; omega)
theorem flagsOf_one {z : Nat} : (List.replicate 24 false).set z true = flagsOf [(z : Int)] := by
  have h : List.replicate 24 false = flagsOf [] := by decide
  rw [h, flagsOf_add (by simp)]
  rfl

theorem gl_at_right {p q : List Int} {n k : Nat} (hp : p.length = 24) (hk : k < 24) : (V (gl p q n))[k]? = some (.int .i64 (p.getD k 0)) := by
  rw [V_getD (by simp [gl]; omega), right_at hp hk]
theorem gl_at_up {p q : List Int} {n k : Nat} (hp : p.length = 24) (hq : q.length = 24) (hk : k < 24) : (V (gl p q n))[24 + k]? = some (.int .i64 (q.getD k 0)) := by
  rw [V_getD (by simp [gl]; omega), up_at hp hq hk]

set_option maxHeartbeats 4000000 in
theorem names_any (p q : List Int) (n f : Nat) (w : World) (hp : Sq p) (hq : Sq q) (hf : f < 24) :
    Calls Tryz.prog 78 #[.agg (V (gl p q n)).toArray, .int .i64 (f : Int)] w fun e w' => e = .returned (.agg (V (nmsF p q f)).toArray) ∧ Below w.heap.size w w' := by
  obtain ⟨i0, hi0, hz0, hz1, hz2⟩ := info_parts infoI
  have MX := Lib.hid (Sq.maps hp); have MY := Lib.hid (Sq.maps hq)
  have LX := Lib.hid hp.len; have LY := Lib.hid hq.len
  clear hp hq
  go_enter Tryz.func78, Tryz.ntmps78
  go_wp2_with fail
  refine (staying_any _).mono ?_
  rintro e w1 ⟨rfl, b1⟩
  have hs1 : w.heap.size + 2 ≤ w1.heap.size := by have := b1.size; simpa using this
  have A0 := Lib.hid (((Arr.new w (V (gl p q n)) 62 rfl).alloc _).keep b1 (by simp <;> omega))
  have A1 := Lib.hid ((Arr.new (w.alloc (.cells (V (gl p q n)).toArray 62)) (V zeros) 60 (g := w.heap.size + 1) (by simp)).keep b1 (by simp <;> omega))
  have B1 : Hid (Below w.heap.size w w1) := Lib.hid ((((Below.refl _ _).alloc (Nat.le_refl _) _).alloc (by simp) _).trans (b1.mono (by simp <;> omega)))
  clear b1
  go_wp2_with (first | (refine wpList_store_row rfl 60 _ _ rfl w1.heap.size (V idl).toArray rfl rfl 60 (V zeros).toArray (Arr.new w1 (V zeros) _ rfl) (size_V (tab_len _)) rfl (one_V _) ?_; generalize hw2 : (w1.alloc (.cells #[.int .i64 0, .int .i64 0, .int .i64 0, .int .i64 0, .int .i64 0, .int .i64 0, .int .i64 0, .int .i64 0, .int .i64 0, .int .i64 0, .int .i64 0, .int .i64 0, .int .i64 0, .int .i64 0, .int .i64 0, .int .i64 0, .int .i64 0, .int .i64 0, .int .i64 0, .int .i64 0, .int .i64 0, .int .i64 0, .int .i64 0, .int .i64 0] 60)).setRow w1.heap.size (V idl).toArray = w2; have A2 : Hid (Arr w2 w1.heap.size (V idl) 60) := Lib.hid (by rw [← hw2]; exact (Arr.new w1 (V zeros) _ rfl).row); have b1 : Below w1.heap.size w1 w2 := (by rw [← hw2]; exact arr.below_setRow ((Below.refl _ _).alloc (Nat.le_refl _) _) (Nat.le_refl _) _); have s2 : w2.heap.size = w1.heap.size + 1 := (by rw [← hw2]; simp); replace A0 := Lib.hid (A0.out.keep b1 A0.out.lt); replace A1 := Lib.hid (A1.out.keep b1 A1.out.lt); replace B1 := Lib.hid (B1.out.trans (b1.mono B1.out.size)); clear hw2 b1; have NF := Lib.hid (Arr.new w2 (VB (List.replicate 24 false)) 88 rfl); have hcf : (w2.alloc (.cells #[.bool false, .bool false, .bool false, .bool false, .bool false, .bool false, .bool false, .bool false, .bool false, .bool false, .bool false, .bool false, .bool false, .bool false, .bool false, .bool false, .bool false, .bool false, .bool false, .bool false, .bool false, .bool false, .bool false, .bool false] 88)).cell? ⟨w2.heap.size, f, none⟩ = some (.bool false) := NF.out.cell (by unfold VB; rw [List.map_replicate, List.getElem?_replicate, if_pos hf]); have hff : (w2.alloc (.cells #[.bool false, .bool false, .bool false, .bool false, .bool false, .bool false, .bool false, .bool false, .bool false, .bool false, .bool false, .bool false, .bool false, .bool false, .bool false, .bool false, .bool false, .bool false, .bool false, .bool false, .bool false, .bool false, .bool false, .bool false] 88)).frozen? ⟨w2.heap.size, f, none⟩ = false := NF.out.frozen f) | fail)
  go_loopw [7, 8] (fun v i wr => ∃ k : Nat, k ≤ 24 ∧ i = .int .i64 k ∧ Nr w wr w1.heap.size p q n v (rs p q f k) (nms p q f k) ∧ k ≤ (rs p q f k).length) (fun _ i _ => 24 - (intOf i).toNat)
  case atStart =>
    refine ⟨0, Nat.zero_le _, rfl, ⟨?_, ?_, ?_, ?_, ?_, ?_, hs1⟩, Nat.zero_le _⟩
    · exact ⟨rfl, .inr ⟨w1.heap.size + 1 + 1, 1, #[.int .i64 (f : Int)], rfl, Nat.le_refl _, Arr.new _ (V [(f : Int)]) _ (by simp; omega), Nat.le_refl _, by unfold maxLen; omega, rfl, rfl⟩⟩
    · exact (A0.out.alloc _).alloc _
    · exact (A1.out.alloc _).alloc _
    · exact (A2.out.alloc _).alloc _
    · have e : VB (flagsOf [(f : Int)]) = [Value.bool false, Value.bool false, Value.bool false, Value.bool false, Value.bool false, Value.bool false, Value.bool false, Value.bool false, Value.bool false, Value.bool false, Value.bool false, Value.bool false, Value.bool false, Value.bool false, Value.bool false, Value.bool false, Value.bool false, Value.bool false, Value.bool false, Value.bool false, Value.bool false, Value.bool false, Value.bool false, Value.bool false].set f (.bool true) := by rw [← flagsOf_one, ← VB_set]; rfl
      show Arr _ _ (VB (flagsOf [(f : Int)])) _
      rw [e]
      exact (Arr.new w2 _ _ (g := w1.heap.size + 1) (by omega)).alloc _
    · exact (B1.out.alloc B1.out.size _).alloc (by simp; omega) _
  case round =>
    obtain ⟨k, hk, rfl, hm, hle⟩ := hrel
    obtain ⟨wo, rfl⟩ : ∃ wo : World, wo = wr := ⟨_, rfl⟩
    have IN := Lib.hid (rs_in MX.out MY.out (f := (f : Int)) (by omega) (by omega) k)
    have hln : (rs p q f k).length ≤ 24 := IN.out.len
    obtain ⟨C, cc, rfl⟩ := own_form hm.own
    have HR := Lib.hid hm; clear hm hcf hff NF A0 A1 A2 B1
    by_cases hlt : k < (rs p q f k).length
    · obtain ⟨z, hz, hzs, hzd⟩ := IN.out.at_ hlt
      have RO := Row.of_own HR.out.own
      obtain ⟨go, oo, uo, rfl, hgo, hgo2, huo, hco, hfo⟩ := RO.at_ hlt
      rw [V_get hzs] at huo
      obtain rfl := Option.some.inj huo
      have hcn := HR.out.nm.cell (V_getD (l := nms p q f k) (k := z) (by rw [nms_len]; exact hz))
      have hfn := HR.out.nm.frozen z
      have HQ := Lib.hid (HR.out.name z k)
      have hcp := HQ.out.g.cell (gl_at_right (n := n) LX.out hz)
      have hcq := HQ.out.g.cell (gl_at_up (n := n) LX.out LY.out hz)
      have a01 := MX.out z hz; have b01 := MY.out z hz
      have STEP : Hid (rs p q f (k + 1) = mid (rs p q f k) (p.getD z 0) (q.getD z 0) 2) := Lib.hid (by rw [rs_step p q f hlt hzd]; rfl)
      have STEPN : Hid (nms p q f (k + 1) = (nms p q f k).set z (k : Int)) := Lib.hid (by rw [nms, hzd]; rfl)
      generalize p.getD z 0 = a at *
      generalize q.getD z 0 = b at *
      obtain ⟨a0, a1⟩ := a01; obtain ⟨b0, b1⟩ := b01
      have LE : Hid (k + 1 ≤ (rs p q f (k + 1)).length) := Lib.hid (rs_le p q f hlt)
      have MI : Hid (∀ j, In 24 (mid (rs p q f k) a b j)) := Lib.hid (mid_in IN.out a0 a1 b0 b1)
      have hB := HR.out.hB
      clear hzs hzd huo RO hfo HR
      go_wp2
      go_region
      go_wp2
      go_loopw [7, 39] (fun v i wr => ∃ j : Nat, j ≤ 2 ∧ i = .int .i64 j ∧ Nr w wr w1.heap.size p q n v (mid (rs p q f k) a b j) ((nms p q f k).set z (k : Int))) (fun _ i _ => 2 - (intOf i).toNat)
      case atStart => exact ⟨0, Nat.zero_le _, rfl, HQ.out.drew 1⟩
      case round =>
        obtain ⟨j, hj, rfl, hmid⟩ := hrel
        have hln2 : (mid (rs p q f k) a b j).length ≤ 24 := (MI.out j).len
        obtain ⟨C2, cc2, rfl⟩ := own_form hmid.own
        have HMI := Lib.hid hmid; clear hmid
        by_cases hj2 : j < 2
        · generalize hq : [a, b].getD j 0 = x
          have MS := Lib.hid (mid_step (rs p q f k) a b hj2 hq)
          have hix := index_pair a b j hj2 x hq
          obtain ⟨y, rfl, hy⟩ := pair_in hj2 hq a0 a1 b0 b1
          clear hq
          have hsz : w1.heap.size + 2 ≤ wr.heap.size := HMI.out.met.lt
          by_cases hh : (y : Int) ∈ mid (rs p q f k) a b j
          · have hfl : wr.cell? ⟨w1.heap.size + 1, y, none⟩ = some (.bool true) := flags_cell HMI.out.met hy (by simpa using hh)
            have EQ : Hid (mid (rs p q f k) a b (j + 1) = mid (rs p q f k) a b j) := Lib.hid (by rw [MS.out]; unfold add1; rw [if_pos hh])
            clear hh
            go_wp2
            go_roundw
            case rel => exact ⟨j + 1, by omega, by go_num, by rw [EQ.out]; exact HMI.out⟩
            case measure => simp [intOf]; omega
          · have hfl : wr.cell? ⟨w1.heap.size + 1, y, none⟩ = some (.bool false) := flags_cell HMI.out.met hy (by simpa using hh)
            have hff := HMI.out.met.frozen y
            have HH := Lib.hid hh
            have OW : Hid ((wr.setCell ⟨w1.heap.size + 1, y, none⟩ (.bool true)).ownsRow (w1.heap.size + 2) 3 1 (.slice C2 (mid (rs p q f k) a b j).length cc2) (mid (rs p q f k) a b j).length (V (mid (rs p q f k) a b j))) := Lib.hid (by
              refine HMI.out.own.kept (row := some (w1.heap.size + 1)) ⟨rfl, rfl, rfl, by simp [World.setCell], fun i hi hne => heap_setCell_other _ _ _ _ (fun e => hne (by rw [e]))⟩ (.inr (fun e => HMI.out.ne (k := w1.heap.size + 1) (by omega) e.symm)))
            clear hh
            generalize hw1 : wr.setCell ⟨w1.heap.size + 1, y, none⟩ (.bool true) = wx at OW
            have HW1 := Lib.hid hw1
            have hsz1 : w1.heap.size + 2 ≤ wx.heap.size := by rw [← hw1]; simpa [World.setCell] using hsz
            go_wp2_with (at_builtin; refine wpList_append_one wx _ _ rfl _ _ 29 rfl (w1.heap.size + 2) 3 i0 _ 8 Tryz.underlying29 hi0 hz0 hz1 hz2 rfl _ _ _ rfl OW.out rfl rfl ?c4 (by decide) hsz1 ?_)
            case c4 => omega
            intro v' w' ho hg
            have HN : Hid (Nr w w' w1.heap.size p q n v' (mid (rs p q f k) a b (j + 1)) ((nms p q f k).set z (k : Int))) := Lib.hid (by rw [MS.out]; exact HMI.out.next HW1.out.symm ho rfl hg HH.out)
            clear ho hg HMI hw1 hfl hff
            go_wp2
            go_roundw
            case rel => exact ⟨j + 1, by omega, by go_num, HN.out⟩
            case measure => simp [intOf]; omega
        · obtain rfl : j = 2 := by omega
          have HN : Hid (Nr w wr w1.heap.size p q n (.slice C2 (mid (rs p q f k) a b 2).length cc2) (rs p q f (k + 1)) (nms p q f (k + 1))) := Lib.hid (by rw [STEP.out, STEPN.out]; exact HMI.out)
          go_wp2
          go_roundw
          case rel => exact ⟨k + 1, by omega, by go_num, HN.out, LE.out⟩
          case measure => simp [intOf]; omega
    · have e : k = (rs p q f k).length := by omega
      have R : Hid (rs p q f k = reach p q f) := Lib.hid (reach_of LX.out hk (by omega))
      have RN : Hid (nms p q f k = nmsF p q f) := Lib.hid (by unfold nmsF; rw [← R.out, ← e])
      have hd : decide (k < (rs p q f k).length) = false := by simp; omega
      have H2 : Hid (Arr wo w1.heap.size (V (nmsF p q f)) 60) := Lib.hid (by rw [← RN.out]; exact HR.out.nm)
      have l2 : (nmsF p q f).length = 24 := nms_len _ _ _ _
      clear e
      have hB := HR.out.hB
      go_wp2_with (first | (refine wpList_load_row rfl 60 _ rfl w1.heap.size rfl 60 (V (nmsF p q f)).toArray (0, 0) _ H2.out Tryz.underlying60 rfl (size_V l2) ?_) | (refine wpList_store_row rfl 60 _ _ rfl (w.heap.size + 1) (V (nmsF p q f)).toArray rfl rfl 60 (V zeros).toArray HR.out.res (size_V l2) (by simp [V_len, l2, zeros]) (one_V _) ?_))
      exact bodyPost_ret (v := .agg (V (nmsF p q f)).toArray) (results_cell_row rfl _ _ (w.heap.size + 1) 60 (V (nmsF p q f)).toArray (0, 0) _ rfl HR.out.res.row Tryz.underlying60 rfl (size_V l2)) rfl ⟨rfl, below_setRow HR.out.below (by omega) _⟩
end Go.Proofs.YtpmojmhamgcfmaaGreat.gl

/-
  The model's names and renaming of a surface; NamesFrom and RenameSurface, of the model and of the program.
-/
namespace Go.Proofs.YtpmojmhamgcfmaaGreat.gl
open Go.ChangeShapes Go.WideShapes Go.ChangeAt Go.RowKit
open Go.Proofs.YtpmojmhamgcfmaaGreat.mem Go.Proofs.YtpmojmhamgcfmaaGreat.ints Go.Proofs.YtpmojmhamgcfmaaGreat.arr Go.Proofs.YtpmojmhamgcfmaaGreat.pm Go.Proofs.YtpmojmhamgcfmaaGreat.permOk Go.Proofs.YtpmojmhamgcfmaaGreat.permOf Go.Proofs.YtpmojmhamgcfmaaGreat.inv Go.Proofs.YtpmojmhamgcfmaaGreat.fns Go.Proofs.YtpmojmhamgcfmaaGreat.sf
set_option linter.unusedVariables false
set_option maxRecDepth 100000

theorem gives_rows {r : List Int} {w w' : World} {v : Value} (h : w'.ownsRow w.heap.size 3 1 v r.length (V r)) : ∃ P c, v = .slice P r.length c ∧ Row w' w.heap.size w'.heap.size P r.length (V r) ∧ r.length ≤ c := by
  obtain ⟨P, c, rfl⟩ := own_form h
  exact ⟨P, c, rfl, Row.of_own h, (own_cap h).2⟩

set_option maxHeartbeats 1000000 in
theorem names_spec (v : Value) (r u : List Int) (n : Nat) (f : Int) (hi : Nat) (w : World) (hx : Srd w hi v r u) (s : Sf n r u) (f0 : 0 ≤ f) (f1 : f < n) :
    Calls Tryz.prog 39 #[v, .int .i64 f] w (Gives (nm r u f) w) := by
  have lr := s.lr; have lu := s.lu
  have hn := s.r.len
  have HS := Lib.hid s
  have HF := Lib.hid (s.flen f0 f1)
  obtain ⟨P, n1, c, Q, m1, d, rfl, q1, q2, e1, e2, ht, HR⟩ := hx.open
  clear hx s
  go_enter Tryz.func39, Tryz.ntmps39
  go_wp2_with fail
  refine (reach_any P n1 c Q m1 d r u f _ _ _ (HR.out _).1 (HR.out _).2 HS.out.r HS.out.u (by omega) f0 (by omega)).mono ?_
  rintro e w1 ⟨v1, rfl, o1, b1⟩
  obtain ⟨P1, c1, rfl, R1, _⟩ := gives_rows o1
  have B1 := Lib.hid (below1 _ _ b1); clear b1 o1
  have RR := Lib.hid R1; clear R1
  go_wp2_with fail
  refine (l02inv_any P1 _ c1 (reach r u f) _ _ RR.out.rd (HS.out.rok f0 f1)).mono ?_
  rintro e w2 hg
  have hg2 := gives_later B1.out hg
  have HG : Hid (Gives (nm r u f) w e w2) := Lib.hid hg2
  clear hg hg2
  obtain ⟨v2, rfl, ho, hb⟩ := HG.out
  have HO := Lib.hid ho; have HB := Lib.hid hb; clear ho hb HG
  go_wp2_with fail
  go_ret
  exact ⟨v2, rfl, HO.out, HB.out⟩

set_option maxHeartbeats 4000000 in
theorem rename_spec (v : Value) (r u : List Int) (A : Option Addr) (a c0 : Nat) (ns : List Int) (n : Nat) (hi h2 : Nat) (w : World) (hx : Srd w hi v r u) (hy : Rd w h2 A a (V ns)) (s : Sf n r u) (okn : Ok ns) (ln : ns.length = n) :
    Calls Tryz.prog 38 #[v, .slice A a c0] w fun e w' => ∃ g, e = .returned g ∧ Svl w' w.heap.size w'.heap.size g (renTo n r ns n) (renTo n u ns n) ∧ Below w.heap.size w w' := by
  have lr := s.lr; have lu := s.lu
  have la : ns.length = a := by simpa [V] using hy.1
  have HX := Lib.hid hx; have HY := Lib.hid hy
  have HS := Lib.hid s; have HN := Lib.hid okn
  obtain ⟨P, n1, c, Q, m1, d, rfl, q1, q2, e1, e2, ht, HR⟩ := hx.open
  have h2' := hy.2.1
  clear hx hy s okn
  go_enter Tryz.func38, Tryz.ntmps38
  go_wp2_with fail
  generalize hw1 : (w.alloc (.cells #[.slice P n1 c, .slice Q m1 d] 31)).alloc (.cells #[.slice none 0 0, .slice none 0 0] 31) = w1
  have A0 : Hid (Arr w1 w.heap.size [.slice P n1 c, .slice Q m1 d] 31) := Lib.hid (by rw [← hw1]; exact (Arr.new w _ _ rfl).alloc _)
  have A1 : Hid (Arr w1 (w.heap.size + 1) [.slice none 0 0, .slice none 0 0] 31) := Lib.hid (by rw [← hw1]; exact Arr.new _ _ _ (by simp))
  have B1 : Hid (Below w.heap.size w w1) := Lib.hid (by rw [← hw1]; exact ((Below.refl _ _).alloc (Nat.le_refl _) _).alloc (by simp) _)
  have s1 : w1.heap.size = w.heap.size + 2 := by rw [← hw1]; simp
  clear hw1
  refine wp_region_held_drew (S := Hld w.heap.size w1.heap.size w1 [(w.heap.size, [.slice P n1 c, .slice Q m1 d])]) (by kernel_rfl) ((Hld.start1 A0.out).lower (by omega)) (fun hHeld => ?_)
  have b1 : Below w1.heap.size w1 w1.drew := ⟨rfl, rfl, rfl, Nat.le_refl _, fun _ _ => rfl⟩
  generalize w1.drew = w2 at *
  have s2 := b1.size
  replace A1 := Lib.hid (A1.out.keep b1 A1.out.lt)
  replace B1 := Lib.hid (B1.out.trans (b1.mono B1.out.size))
  clear b1 A0
  refine wpAnyH_take (i := 0) (v := .pointer (some ⟨w.heap.size, 0, none⟩)) rfl (by kernel_rfl) (by kernel_rfl) (by kernel_rfl) (fun _ _ _ h => h) (Or.inl ⟨by rfl, fun w hSw => by go_simp⟩) hHeld ?_
  refine wpAnyH_take (i := 4) (v := .pointer (some ⟨w.heap.size, 1, none⟩)) rfl (by kernel_rfl) (by kernel_rfl) (by kernel_rfl) (fun _ _ _ h => h) (Or.inl ⟨by rfl, fun w hSw => by go_simp⟩) hHeld ?_
  refine wpAnyH_take (i := 1) (v := .slice P n1 c) rfl (by kernel_rfl) (by kernel_rfl) (by kernel_rfl) (fun _ _ _ h => h) (Or.inl ⟨by rfl, fun w hSw => by have := hSw.fst 0 _ rfl; go_simp⟩) hHeld ?_
  refine wpAnyH_take (i := 5) (v := .slice Q m1 d) rfl (by kernel_rfl) (by kernel_rfl) (by kernel_rfl) (fun _ _ _ h => h) (Or.inl ⟨by rfl, fun w hSw => by have := hSw.fst 1 _ rfl; go_simp⟩) hHeld ?_
  refine wpAnyH_take (i := 2) (v := .slice A a c0) rfl (by kernel_rfl) (by kernel_rfl) (by kernel_rfl) (fun _ _ _ h => h) (Or.inl ⟨by rfl, fun w hSw => by go_simp⟩) hHeld ?_
  refine wpAnyH_take (i := 6) (v := .slice A a c0) rfl (by kernel_rfl) (by kernel_rfl) (by kernel_rfl) (fun _ _ _ h => h) (Or.inl ⟨by rfl, fun w hSw => by go_simp⟩) hHeld ?_
  refine wpAnyH_ready (rs := [3]) (by kernel_rfl) (by simp) (AllReadyH.cons rfl (fun K hK => ?_) AllReadyH.nil)
  go_simp
  refine (l02ren_any P n1 c A a c0 r ns hi h2 _ (Srd.fst (HX.out.keep (B1.out.mono ht) (Nat.le_refl _))) (HY.out.keep (B1.out.mono h2') (Nat.le_refl _)) HS.out.r HN.out (by omega)).mono ?_
  rintro e w3 ⟨v1, rfl, o1, b1⟩
  obtain ⟨P1, c1, rfl, r1, C1⟩ := gives_rows o1
  have s3 := b1.size
  have R1 := Lib.hid r1; clear r1 o1
  replace A1 := Lib.hid (A1.out.keep b1 A1.out.lt)
  replace B1 := Lib.hid (B1.out.trans (b1.mono B1.out.size))
  go_wp2_with fail
  have hHeld2 := hHeld.later b1 (by omega); clear b1 hHeld
  refine hK.out _ _ hHeld2 (fun hHeld => ?_)
  clear hK K hHeld2
  refine wpAnyH_ready (rs := [7]) (by kernel_rfl) (by simp) (AllReadyH.cons rfl (fun K hK => ?_) AllReadyH.nil)
  go_simp
  refine (l02ren_any Q m1 d A a c0 u ns hi h2 _ (Srd.snd (HX.out.keep (B1.out.mono ht) (Nat.le_refl _))) (HY.out.keep (B1.out.mono h2') (Nat.le_refl _)) HS.out.u HN.out (by omega)).mono ?_
  rintro e w4 ⟨v2, rfl, o2, b1⟩
  obtain ⟨P2, c2, rfl, r2, C2⟩ := gives_rows o2
  have s4 := b1.size
  have R2 := Lib.hid r2; clear r2 o2
  replace A1 := Lib.hid (A1.out.keep b1 A1.out.lt)
  replace R1 := Lib.hid (R1.out.keep b1 R1.out.2.1)
  replace B1 := Lib.hid (B1.out.trans (b1.mono B1.out.size))
  go_wp2_with fail
  have hHeld2 := hHeld.later b1 (by omega); clear b1 hHeld
  refine hK.out _ _ hHeld2 (fun hHeld => ?_)
  clear hK K hHeld2
  refine wpAnyH_ready (rs := [8]) (by kernel_rfl) (by simp) (AllReadyH.cons rfl (fun K hK => ?_) AllReadyH.nil)
  go_simp
  refine hK.out _ _ hHeld (fun hHeld2 => ?_)
  clear hK K hHeld2
  refine wpAnyH_ready (rs := [9]) (by kernel_rfl) (by simp) (AllReadyH.cons rfl (fun K hK => ?_) AllReadyH.nil)
  obtain rfl : n1 = n := by omega
  obtain rfl : m1 = n1 := by omega
  have z1 : (renTo m1 r ns m1).length = m1 := renTo_len _ _ _ _
  have z2 : (renTo m1 u ns m1).length = m1 := renTo_len _ _ _ _
  rw [z1] at R1 C1; rw [z2] at R2 C2
  refine step_store_row rfl 31 _ _ rfl (w.heap.size + 1) #[.slice P1 m1 c1, .slice P2 m1 c2] rfl (by simp [go_sem, z1, z2]) 31 #[.slice none 0 0, .slice none 0 0] A1.out size2 rfl (by simp [Value.oneCell']) ?_
  refine hK.out _ _ (hHeld.other (by omega) (by simp) _) (fun hHeld2 => ?_)
  clear hK K hHeld2
  refine wpAnyH_done (by kernel_rfl) ?_ _
  go_wp2_with fail
  refine bodyPost_ret (v := .agg #[.slice P1 m1 c1, .slice P2 m1 c2]) (results_cell_row rfl _ _ (w.heap.size + 1) 31 #[.slice P1 m1 c1, .slice P2 m1 c2] (0, 0) _ rfl A1.out.row Tryz.underlying31 rfl size2) rfl ⟨_, rfl, ?_, below_setRow B1.out (by omega) _⟩
  have oo : Out w.heap.size w2.heap.size w4 (w4.setRow (w.heap.size + 1) #[.slice P1 m1 c1, .slice P2 m1 c2]) := (Out.refl _ _ _).row_ (by omega) (by omega) _
  exact ⟨P1, m1, c1, P2, m1, c2, w2.heap.size, w3.heap.size, w3.heap.size, w4.heap.size, rfl, R1.out.out oo (.inr (by omega)), R2.out.out oo (.inr (by omega)), C1, C2, by omega, by have := oo.size; omega, by omega, by have := oo.size; omega, .inl (Nat.le_refl _), Nat.le_refl _⟩
end Go.Proofs.YtpmojmhamgcfmaaGreat.gl
