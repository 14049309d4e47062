import Derived.Test.YtafpbnjfmieamaaY08
/-
  A gluing renamed.
-/
namespace Go.Proofs.Ytafpbnjfmieamaa.gl
open Go.ChangeShapes Go.WideShapes Go.ChangeAt Go.RowKit
open Go.Proofs.Ytafpbnjfmieamaa.mem Go.Proofs.Ytafpbnjfmieamaa.ints Go.Proofs.Ytafpbnjfmieamaa.arr Go.Proofs.Ytafpbnjfmieamaa.pm Go.Proofs.Ytafpbnjfmieamaa.permOk Go.Proofs.Ytafpbnjfmieamaa.permOf Go.Proofs.Ytafpbnjfmieamaa.inv Go.Proofs.Ytafpbnjfmieamaa.fns Go.Proofs.Ytafpbnjfmieamaa.sf
set_option linter.unusedVariables false
set_option maxRecDepth 100000

/-- p among 24 elements, renamed by ns. -/
def ren24 (p ns : List Int) : List Int := thenL (thenL (invTo 24 ns 24) p) ns
theorem ren24_len (p ns : List Int) : (ren24 p ns).length = 24 := tab_len _
theorem ren24_sq {p ns : List Int} (hp : Sq p) (hn : Sq ns) : Sq (ren24 p ns) := then_sq (then_sq (inv_sq _) hp) hn
theorem ext_ok {xs : List Int} (h : Ok xs) : Ok (ext xs) := by
  have hl := h.len
  refine ⟨by rw [ext_len]; omega, fun i hi => h.sq.lo i (by rwa [ext_len] at hi), fun i hi => by rw [ext_len] at *; exact h.sq.hi i hi, fun i j hi hj e => ?_⟩
  rw [ext_len] at hi hj
  rw [ext_at hi, ext_at hj] at e
  split at e <;> split at e
  · exact h.inj i j (by assumption) (by assumption) e
  · have := h.hi i (by assumption); omega
  · have := h.hi j (by assumption); omega
  · omega
theorem ren24_ext {n : Nat} {xs ys : List Int} (h : Ok xs) (h' : Ok ys) (lx : xs.length = n) (ly : ys.length = n) : ren24 (ext xs) (ext ys) = ext (renTo n xs ys n) := by
  have hn : n ≤ 24 := by have := h.len; omega
  refine list_eq 24 (ren24_len _ _) (ext_len _) fun i hi => ?_
  rw [ext_at hi, renTo_len]
  by_cases hin : i < n
  · rw [if_pos hin]
    have e := take_ren h h' (by omega)
    rw [lx] at e
    rw [← e]
    unfold ren24
    simp [List.getD, hin]
  · rw [if_neg hin]
    have o := ext_ok h'
    have ey : (ext ys).getD i 0 = (i : Int) := by rw [ext_at hi, if_neg (by omega)]
    have ex : (ext xs).getD i 0 = (i : Int) := by rw [ext_at hi, if_neg (by omega)]
    have a := inv_at o (k := i) (by rw [ext_len]; exact hi)
    rw [ey, ext_len, Int.toNat_natCast] at a
    unfold ren24 thenL
    rw [tab_get _ hi, tab_get _ hi, a, Int.toNat_natCast, ex, Int.toNat_natCast, ey]

set_option maxHeartbeats 8000000 in
theorem renamed_any (p q ns : List Int) (n : Nat) (w : World) (hp : Sq p) (hq : Sq q) (hn : Sq ns) :
    Calls Try.prog 64 #[.agg (V (gl p q n)).toArray, .agg (V ns).toArray] w fun e w' => e = .returned (.agg (V (gl (ren24 p ns) (ren24 q ns) n)).toArray) ∧ Below w.heap.size w w' := by
  have HP := Lib.hid hp; have HQ := Lib.hid hq; have HN := Lib.hid hn; clear hp hq hn
  go_enter Try.func64, Try.ntmps64
  have A3' : Hid (Arr (((w.alloc (.cells (V (gl p q n)).toArray 62)).alloc (.cells (V ns).toArray 60)).alloc (.cells #[.int .i64 0, .int .i64 0, .int .i64 0, .int .i64 0, .int .i64 0, .int .i64 0, .int .i64 0, .int .i64 0, .int .i64 0, .int .i64 0, .int .i64 0, .int .i64 0, .int .i64 0, .int .i64 0, .int .i64 0, .int .i64 0, .int .i64 0, .int .i64 0, .int .i64 0, .int .i64 0, .int .i64 0, .int .i64 0, .int .i64 0, .int .i64 0, .int .i64 0, .int .i64 0, .int .i64 0, .int .i64 0, .int .i64 0, .int .i64 0, .int .i64 0, .int .i64 0, .int .i64 0, .int .i64 0, .int .i64 0, .int .i64 0, .int .i64 0, .int .i64 0, .int .i64 0, .int .i64 0, .int .i64 0, .int .i64 0, .int .i64 0, .int .i64 0, .int .i64 0, .int .i64 0, .int .i64 0, .int .i64 0, .int .i64 0] 62)) (w.heap.size + 1) (V ns) 60) := Lib.hid ((Arr.new _ (V ns) _ (by simp)).alloc _)
  go_wp2_with (refine wpList_load_row rfl 60 (.tmp 3) rfl (w.heap.size + 1) rfl 60 (V ns).toArray (0, 0) _ A3'.out Try.underlying60 rfl (size_V HN.out.len) ?_)
  generalize hw1 : ((w.alloc (.cells (V (gl p q n)).toArray 62)).alloc (.cells (V ns).toArray 60)).alloc (.cells #[.int .i64 0, .int .i64 0, .int .i64 0, .int .i64 0, .int .i64 0, .int .i64 0, .int .i64 0, .int .i64 0, .int .i64 0, .int .i64 0, .int .i64 0, .int .i64 0, .int .i64 0, .int .i64 0, .int .i64 0, .int .i64 0, .int .i64 0, .int .i64 0, .int .i64 0, .int .i64 0, .int .i64 0, .int .i64 0, .int .i64 0, .int .i64 0, .int .i64 0, .int .i64 0, .int .i64 0, .int .i64 0, .int .i64 0, .int .i64 0, .int .i64 0, .int .i64 0, .int .i64 0, .int .i64 0, .int .i64 0, .int .i64 0, .int .i64 0, .int .i64 0, .int .i64 0, .int .i64 0, .int .i64 0, .int .i64 0, .int .i64 0, .int .i64 0, .int .i64 0, .int .i64 0, .int .i64 0, .int .i64 0, .int .i64 0] 62) = w1
  have A2 : Hid (Arr w1 w.heap.size (V (gl p q n)) 62) := Lib.hid (by rw [← hw1]; exact ((Arr.new w _ _ rfl).alloc _).alloc _)
  have A3 : Hid (Arr w1 (w.heap.size + 1) (V ns) 60) := Lib.hid (by rw [← hw1]; exact A3'.out)
  have A4 : Hid (Arr w1 (w.heap.size + 2) (V zero49) 62) := Lib.hid (by rw [← hw1]; exact Arr.new _ (V zero49) _ (by simp))
  have B1 : Hid (Below w.heap.size w w1) := Lib.hid (by rw [← hw1]; exact (((Below.refl _ _).alloc (Nat.le_refl _) _).alloc (by simp) _).alloc (by simp <;> omega) _)
  have s1 : w1.heap.size = w.heap.size + 3 := by rw [← hw1]; simp
  clear hw1 A3'
  refine (inverse_any ns _ HN.out).mono ?_
  rintro e w2 ⟨rfl, b1⟩
  have s2 := b1.size
  replace A2 := Lib.hid (A2.out.keep b1 A2.out.lt)
  replace A3 := Lib.hid (A3.out.keep b1 A3.out.lt)
  replace A4 := Lib.hid (A4.out.keep b1 A4.out.lt)
  replace B1 := Lib.hid (B1.out.trans (b1.mono B1.out.size))
  clear b1
  go_wp2_with (refine wpList_store_row rfl 60 (.tmp 5) (.tmp 7) rfl w2.heap.size (V (invTo 24 ns 24)).toArray rfl rfl 60 (V zeros).toArray (Arr.new w2 (V zeros) _ rfl) (size_V (invTo_len _ _ _)) (by simp [V_len, invTo_len, zeros]) (one_V _) ?_; generalize hw3 : (w2.alloc (.cells #[.int .i64 0, .int .i64 0, .int .i64 0, .int .i64 0, .int .i64 0, .int .i64 0, .int .i64 0, .int .i64 0, .int .i64 0, .int .i64 0, .int .i64 0, .int .i64 0, .int .i64 0, .int .i64 0, .int .i64 0, .int .i64 0, .int .i64 0, .int .i64 0, .int .i64 0, .int .i64 0, .int .i64 0, .int .i64 0, .int .i64 0, .int .i64 0] 60)).setRow w2.heap.size (V (invTo 24 ns 24)).toArray = w3; have A5 : Hid (Arr w3 w2.heap.size (V (invTo 24 ns 24)) 60) := Lib.hid (by rw [← hw3]; exact (Arr.new w2 (V zeros) _ rfl).row); have b1 : Below w2.heap.size w2 w3 := (by rw [← hw3]; exact arr.below_setRow ((Below.refl _ _).alloc (Nat.le_refl _) _) (Nat.le_refl _) _); have s3 : w3.heap.size = w2.heap.size + 1 := (by rw [← hw3]; simp); replace A2 := Lib.hid (A2.out.keep b1 A2.out.lt); replace A3 := Lib.hid (A3.out.keep b1 A3.out.lt); replace A4 := Lib.hid (A4.out.keep b1 A4.out.lt); replace B1 := Lib.hid (B1.out.trans (b1.mono B1.out.size)); clear hw3 b1)
  refine wp_region_held_drew (S := Hld w.heap.size w3.heap.size w3 [(w.heap.size, V (gl p q n)), (w.heap.size + 1, V ns), (w2.heap.size, V (invTo 24 ns 24))]) (by kernel_rfl) ((Hld.start3 A2.out A3.out A5.out).lower (by omega)) (fun hHeld => ?_)
  have b1 : Below w3.heap.size w3 w3.drew := ⟨rfl, rfl, rfl, Nat.le_refl _, fun _ _ => rfl⟩
  generalize w3.drew = w4 at *
  have s4 := b1.size
  replace A4 := Lib.hid (A4.out.keep b1 A4.out.lt)
  replace B1 := Lib.hid (B1.out.trans (b1.mono B1.out.size))
  clear b1 A2 A3 A5
  refine wpAnyH_take (i := 1) (v := .pointer (some ⟨w.heap.size, 0, none⟩)) rfl (by kernel_rfl) (by kernel_rfl) (by kernel_rfl) (fun _ _ _ h => h) (Or.inl ⟨by rfl, fun w hSw => by go_simp⟩) hHeld ?_
  refine wpAnyH_take (i := 7) (v := .pointer (some ⟨w.heap.size, 24, none⟩)) rfl (by kernel_rfl) (by kernel_rfl) (by kernel_rfl) (fun _ _ _ h => h) (Or.inl ⟨by rfl, fun w hSw => by go_simp⟩) hHeld ?_
  refine wpAnyH_take (i := 12) (v := .pointer (some ⟨w.heap.size, 48, none⟩)) rfl (by kernel_rfl) (by kernel_rfl) (by kernel_rfl) (fun _ _ _ h => h) (Or.inl ⟨by rfl, fun w hSw => by go_simp⟩) hHeld ?_
  refine wpAnyH_take (i := 0) (v := .agg (V (invTo 24 ns 24)).toArray) rfl (by kernel_rfl) (by kernel_rfl) (by kernel_rfl) (fun _ _ _ h => h) (yieldsIf_load_mid (by rfl) _ _ rfl (w2.heap.size) 0 rfl (V (invTo 24 ns 24)) _ (fun w h => h.trd) Try.underlying60 rfl (hi24 (invTo_len _ _ _))) hHeld ?_
  refine wpAnyH_take (i := 6) (v := .agg (V (invTo 24 ns 24)).toArray) rfl (by kernel_rfl) (by kernel_rfl) (by kernel_rfl) (fun _ _ _ h => h) (yieldsIf_load_mid (by rfl) _ _ rfl (w2.heap.size) 0 rfl (V (invTo 24 ns 24)) _ (fun w h => h.trd) Try.underlying60 rfl (hi24 (invTo_len _ _ _))) hHeld ?_
  refine wpAnyH_take (i := 2) (v := .agg (V p).toArray) rfl (by kernel_rfl) (by kernel_rfl) (by kernel_rfl) (fun _ _ _ h => h) (yieldsIf_load_mid (by rfl) _ _ rfl (w.heap.size) 0 rfl (V p) _ (fun w h => rg_right HP.out.len h.fst) Try.underlying60 rfl (hi24 HP.out.len)) hHeld ?_
  refine wpAnyH_take (i := 8) (v := .agg (V q).toArray) rfl (by kernel_rfl) (by kernel_rfl) (by kernel_rfl) (fun _ _ _ h => h) (yieldsIf_load_mid (by rfl) _ _ rfl (w.heap.size) 24 rfl (V q) _ (fun w h => rg_up HP.out.len HQ.out.len h.fst) Try.underlying60 rfl (hi24 HQ.out.len)) hHeld ?_
  refine wpAnyH_take (i := 4) (v := .agg (V ns).toArray) rfl (by kernel_rfl) (by kernel_rfl) (by kernel_rfl) (fun _ _ _ h => h) (yieldsIf_load_mid (by rfl) _ _ rfl (w.heap.size + 1) 0 rfl (V ns) _ (fun w h => h.snd) Try.underlying60 rfl (hi24 HN.out.len)) hHeld ?_
  refine wpAnyH_take (i := 10) (v := .agg (V ns).toArray) rfl (by kernel_rfl) (by kernel_rfl) (by kernel_rfl) (fun _ _ _ h => h) (yieldsIf_load_mid (by rfl) _ _ rfl (w.heap.size + 1) 0 rfl (V ns) _ (fun w h => h.snd) Try.underlying60 rfl (hi24 HN.out.len)) hHeld ?_
  refine wpAnyH_take (i := 13) (v := .int .i64 n) rfl (by kernel_rfl) (by kernel_rfl) (by kernel_rfl) (fun _ _ _ h => h) (Or.inl ⟨by rfl, fun w hSw => by have := rg_count HP.out.len HQ.out.len hSw.fst; go_simp⟩) hHeld ?_
  refine wpAnyH_ready (rs := [3]) (by kernel_rfl) (by simp) (AllReadyH.cons rfl (fun K hK => ?_) AllReadyH.nil)
  go_simp
  refine (inv.then_any (invTo 24 ns 24) p _ (inv_sq _) HP.out).mono ?_
  rintro e w' ⟨rfl, b1⟩
  replace A4 := Lib.hid (A4.out.keep b1 A4.out.lt)
  replace B1 := Lib.hid (B1.out.trans (b1.mono B1.out.size))
  go_wp2_with fail
  have hHeld2 := hHeld.later b1 (by omega); clear b1 hHeld
  refine hK.out _ _ hHeld2 (fun hHeld => ?_)
  clear hK K hHeld2
  refine wpAnyH_ready (rs := [5]) (by kernel_rfl) (by simp) (AllReadyH.cons rfl (fun K hK => ?_) AllReadyH.nil)
  go_simp
  refine (inv.then_any (thenL (invTo 24 ns 24) p) ns _ (then_sq (inv_sq _) HP.out) HN.out).mono ?_
  rintro e w' ⟨rfl, b1⟩
  replace A4 := Lib.hid (A4.out.keep b1 A4.out.lt)
  replace B1 := Lib.hid (B1.out.trans (b1.mono B1.out.size))
  go_wp2_with fail
  have hHeld2 := hHeld.later b1 (by omega); clear b1 hHeld
  refine hK.out _ _ hHeld2 (fun hHeld => ?_)
  clear hK K hHeld2
  refine wpAnyH_ready (rs := [9]) (by kernel_rfl) (by simp) (AllReadyH.cons rfl (fun K hK => ?_) AllReadyH.nil)
  go_simp
  refine (inv.then_any (invTo 24 ns 24) q _ (inv_sq _) HQ.out).mono ?_
  rintro e w' ⟨rfl, b1⟩
  replace A4 := Lib.hid (A4.out.keep b1 A4.out.lt)
  replace B1 := Lib.hid (B1.out.trans (b1.mono B1.out.size))
  go_wp2_with fail
  have hHeld2 := hHeld.later b1 (by omega); clear b1 hHeld
  refine hK.out _ _ hHeld2 (fun hHeld => ?_)
  clear hK K hHeld2
  refine wpAnyH_ready (rs := [11]) (by kernel_rfl) (by simp) (AllReadyH.cons rfl (fun K hK => ?_) AllReadyH.nil)
  go_simp
  refine (inv.then_any (thenL (invTo 24 ns 24) q) ns _ (then_sq (inv_sq _) HQ.out) HN.out).mono ?_
  rintro e w' ⟨rfl, b1⟩
  replace A4 := Lib.hid (A4.out.keep b1 A4.out.lt)
  replace B1 := Lib.hid (B1.out.trans (b1.mono B1.out.size))
  go_wp2_with fail
  have hHeld2 := hHeld.later b1 (by omega); clear b1 hHeld
  refine hK.out _ _ hHeld2 (fun hHeld => ?_)
  clear hK K hHeld2
  refine wpAnyH_ready (rs := [14]) (by kernel_rfl) (by simp) (AllReadyH.cons rfl (fun K hK => ?_) AllReadyH.nil)
  refine step_build rfl 62 _ rfl [(0, .agg (V (ren24 p ns)).toArray), (1, .agg (V (ren24 q ns)).toArray), (2, .int .i64 n)] rfl (V (gl (ren24 p ns) (ren24 q ns) n)).toArray (built_gl (ren24_len _ _) (ren24_len _ _) n) ?_
  refine hK.out _ _ hHeld (fun hHeld2 => ?_)
  clear hK K hHeld2
  refine wpAnyH_ready (rs := [15]) (by kernel_rfl) (by simp) (AllReadyH.cons rfl (fun K hK => ?_) AllReadyH.nil)
  refine step_store_row rfl 62 _ _ rfl (w.heap.size + 2) (V (gl (ren24 p ns) (ren24 q ns) n)).toArray rfl rfl 62 (V zero49).toArray A4.out (size49 (gl_len (ren24_len _ _) (ren24_len _ _) n)) (by simp [V_len, gl_len, ren24_len, zero49]) (one_V _) ?_
  refine hK.out _ _ (hHeld.other (by omega) (by simp; omega) _) (fun hHeld2 => ?_)
  clear hK K hHeld2
  refine wpAnyH_done (by kernel_rfl) ?_ _
  go_wp2_with fail
  exact bodyPost_ret (v := .agg (V (gl (ren24 p ns) (ren24 q ns) n)).toArray) (results_cell_row rfl _ _ (w.heap.size + 2) 62 (V (gl (ren24 p ns) (ren24 q ns) n)).toArray (0, 0) _ rfl A4.out.row Try.underlying62 rfl (size49 (gl_len (ren24_len _ _) (ren24_len _ _) n))) rfl ⟨rfl, below_setRow B1.out (by omega) _⟩
end Go.Proofs.Ytafpbnjfmieamaa.gl

/-
  slices.Compare and cmp.Or at ints; the program's order of gluings, and the model's.
-/
namespace Go.Proofs.Ytafpbnjfmieamaa.gl
open Go.ChangeShapes Go.WideShapes Go.ChangeAt Go.RowKit
open Go.Proofs.Ytafpbnjfmieamaa.mem Go.Proofs.Ytafpbnjfmieamaa.ints Go.Proofs.Ytafpbnjfmieamaa.arr Go.Proofs.Ytafpbnjfmieamaa.pm Go.Proofs.Ytafpbnjfmieamaa.permOk Go.Proofs.Ytafpbnjfmieamaa.permOf Go.Proofs.Ytafpbnjfmieamaa.inv Go.Proofs.Ytafpbnjfmieamaa.fns Go.Proofs.Ytafpbnjfmieamaa.sf
set_option linter.unusedVariables false
set_option maxRecDepth 100000

def cmpL : List Int → List Int → Int
  | a :: s, b :: t => if a = b then cmpL s t else if a < b then -1 else 1
  | [], [] => 0
  | [], _ :: _ => -1
  | _ :: _, [] => 1
theorem cmpL_at : ∀ (k : Nat) (xs ys : List Int) (s t : Int), Same xs ys k → xs[k]? = some s → ys[k]? = some t → s ≠ t → cmpL xs ys = if s < t then -1 else 1 := by
  intro k
  induction k with
  | zero =>
    intro xs ys s t _ h1 h2 hne
    cases xs with
    | nil => simp at h1
    | cons x xs =>
      cases ys with
      | nil => simp at h2
      | cons y ys =>
        simp at h1 h2
        subst h1; subst h2
        simp [cmpL, hne]
  | succ k ih =>
    intro xs ys s t hs h1 h2 hne
    cases xs with
    | nil => simp at h1
    | cons x xs =>
      cases ys with
      | nil => simp at h2
      | cons y ys =>
        have e : x = y := by have := hs 0 (by omega); simpa using this
        subst e
        simp at h1 h2
        simp only [cmpL, if_pos]
        exact ih xs ys s t (fun j hj => by have := hs (j + 1) (by omega); simpa using this) h1 h2 hne
theorem cmpL_same : ∀ xs : List Int, cmpL xs xs = 0 := by
  intro xs
  induction xs with
  | nil => rfl
  | cons x xs ih => simp [cmpL, ih]
theorem same_all {xs ys : List Int} {n : Nat} (h1 : xs.length = n) (h2 : ys.length = n) (h : Same xs ys n) : xs = ys := by
  have := eqi_yes h1 h2 h
  simpa [eqi] using this
theorem cmpL_range (xs ys : List Int) : cmpL xs ys = -1 ∨ cmpL xs ys = 0 ∨ cmpL xs ys = 1 := by
  induction xs generalizing ys with
  | nil => cases ys <;> simp [cmpL]
  | cons x xs ih =>
    cases ys with
    | nil => simp [cmpL]
    | cons y ys =>
      simp only [cmpL]
      split
      · exact ih ys
      · split <;> simp
theorem cmpL_less : ∀ (xs ys : List Int), xs.length = ys.length → (decide (cmpL xs ys < 0) = lessL xs ys) ∧ (cmpL xs ys = 0 ↔ xs = ys) := by
  intro xs
  induction xs with
  | nil => intro ys h; cases ys with
    | nil => simp [cmpL, lessL]
    | cons y ys => simp at h
  | cons x xs ih =>
    intro ys h
    cases ys with
    | nil => simp at h
    | cons y ys =>
      by_cases e : x = y
      · subst e
        rw [show cmpL (x :: xs) (x :: ys) = cmpL xs ys by simp [cmpL], show lessL (x :: xs) (x :: ys) = lessL xs ys by simp [lessL]]
        have := ih ys (by simpa using h)
        exact ⟨this.1, by rw [this.2]; simp⟩
      · rw [show cmpL (x :: xs) (y :: ys) = if x < y then -1 else 1 by simp [cmpL, e], show lessL (x :: xs) (y :: ys) = decide (x < y) by simp [lessL, e]]
        by_cases l : x < y
        · simp [l, e]
        · simp [l, e]
/-- Right first, then Up. -/
def cmpG (p q p' q' : List Int) : Int := if cmpL p p' = 0 then cmpL q q' else cmpL p p'
theorem cmpG_bef {p q p' q' : List Int} (h1 : p.length = p'.length) (h2 : q.length = q'.length) : decide (cmpG p q p' q' < 0) = bef (p, q) (p', q') := by
  unfold cmpG bef
  by_cases e : p = p'
  · subst e
    rw [if_pos (cmpL_same _), if_pos rfl]
    exact (cmpL_less q q' h2).1
  · rw [if_neg (fun h => e ((cmpL_less p p' h1).2.1 h)), if_neg e]
    exact (cmpL_less p p' h1).1
theorem ext_app (xs : List Int) (h : xs.length ≤ 24) : ext xs = xs ++ (ext xs).drop xs.length := by
  refine list_eq 24 (ext_len _) (by simp [ext_len]; omega) fun i hi => ?_
  by_cases hx : i < xs.length
  · rw [ext_at hi, if_pos hx]; simp [List.getD, List.getElem?_append_left hx, hx]
  · simp [List.getD, List.getElem?_append_right (Nat.le_of_not_lt hx), List.getElem?_drop, Nat.add_sub_cancel' (Nat.le_of_not_lt hx)]
set_option maxHeartbeats 1000000 in
theorem cmp_any (A : Option Addr) (n c : Nat) (B : Option Addr) (m d : Nat) (xs ys : List Int) (h1 h2 : Nat) (w : World)
    (hx : Rd w h1 A n (V xs)) (hy : Rd w h2 B m (V ys)) (hn : n ≤ maxLen) (hnm : n = m) :
    Calls Try.prog 25 #[.slice A n c, .slice B m d] w fun e w' => e = .returned (.int .i64 (cmpL xs ys)) ∧ w' = w := by
  subst hnm
  unfold maxLen at hn
  have lx : xs.length = n := by simpa [V] using hx.1
  have ly : ys.length = n := by simpa [V] using hy.1
  have LX := Lib.hid lx; have LY := Lib.hid ly; clear lx ly
  have HX := Lib.hid hx; have HY := Lib.hid hy; clear hx hy
  go_enter Try.func25, Try.ntmps25
  go_wp2
  go_loopw [11] (fun i wr => ∃ k : Nat, k ≤ n ∧ i = .int .i64 k ∧ wr = w ∧ Same xs ys k) (fun i _ => n - (intOf i).toNat)
  case atStart => refine ⟨0, Nat.zero_le _, ?_, ?_, fun j hj => by omega⟩ <;> first | rfl | trivial
  case round =>
    obtain ⟨k, hk, rfl, rfl, hsame⟩ := hrel
    have HS := Lib.hid hsame; clear hsame
    by_cases hlt : k < n
    · obtain ⟨g, off, u, rfl, _, hxu, hcx⟩ := HX.out.at_ hlt
      obtain ⟨g', off', u', rfl, _, hyu, hcy⟩ := HY.out.at_ hlt
      obtain ⟨s, hxs, rfl⟩ := V_at hxu
      obtain ⟨t, hyt, rfl⟩ := V_at hyu
      have HXS := Lib.hid hxs; have HYT := Lib.hid hyt; clear hxs hyt hxu hyu
      by_cases hst : s = t
      · subst hst
        go_wp2
        go_roundw
        case rel => exact ⟨k + 1, by omega, by go_num, by first | rfl | trivial, HS.out.step HXS.out HYT.out⟩
        case measure => simp [intOf]; omega
      · have HST := Lib.hid hst
        by_cases hl : s < t
        · have HC : Hid (cmpL xs ys = -1) := Lib.hid (by rw [cmpL_at k xs ys s t HS.out HXS.out HYT.out hst, if_pos hl])
          clear hst
          go_wp2
          go_ret
          exact ⟨ret_int HC.out.symm, rfl⟩
        · have HC : Hid (cmpL xs ys = 1) := Lib.hid (by rw [cmpL_at k xs ys s t HS.out HXS.out HYT.out hst, if_neg hl])
          have hg : decide (t < s) = true := by simp; omega
          have hl' : decide (s < t) = false := by simp; omega
          clear hst hl
          go_wp2
          go_ret
          exact ⟨ret_int HC.out.symm, rfl⟩
    · obtain rfl : k = n := by omega
      have HC : Hid (cmpL xs ys = 0) := Lib.hid (by rw [same_all LX.out LY.out HS.out]; exact cmpL_same _)
      go_wp2
      go_ret
      exact ⟨ret_int HC.out.symm, rfl⟩
def orI (x y : Int) : Int := if x = 0 then y else x
set_option maxHeartbeats 1000000 in
theorem or_any (A : Option Addr) (x y : Int) (hi : Nat) (w : World) (hx : Rd w hi A 2 (V [x, y])) :
    Calls Try.prog 75 #[.slice A 2 2] w fun e w' => e = .returned (.int .i64 (orI x y)) ∧ w' = w := by
  have HX := Lib.hid hx; clear hx
  go_enter Try.func75, Try.ntmps75
  go_wp2
  go_loopw [8] (fun i wr => ∃ k : Nat, k ≤ 2 ∧ i = .int .i64 k ∧ wr = w ∧ (1 ≤ k → x = 0) ∧ (2 ≤ k → y = 0)) (fun i _ => 2 - (intOf i).toNat)
  case atStart => refine ⟨0, Nat.zero_le _, ?_, ?_, fun h => by omega, fun h => by omega⟩ <;> first | rfl | trivial
  case round =>
    obtain ⟨k, hk, rfl, rfl, h1, h2⟩ := hrel
    have H1 := Lib.hid h1; have H2 := Lib.hid h2; clear h1 h2
    by_cases hlt : k < 2
    · obtain ⟨g, off, u, rfl, _, hxu, hcx⟩ := HX.out.at_ hlt
      obtain ⟨s, hxs, rfl⟩ := V_at hxu
      have HXS := Lib.hid hxs; clear hxs hxu
      by_cases hs : s = 0
      · have N1 : Hid (1 ≤ k + 1 → x = 0) := Lib.hid (fun _ => by
          by_cases e : k = 0
          · subst e; have := HXS.out; simp at this; omega
          · exact H1.out (by omega))
        have N2 : Hid (2 ≤ k + 1 → y = 0) := Lib.hid (fun h => by
          obtain rfl : k = 1 := by omega
          have := HXS.out; simp at this; omega)
        subst hs
        go_wp2
        go_roundw
        case rel => exact ⟨k + 1, by omega, by go_num, by first | rfl | trivial, N1.out, N2.out⟩
        case measure => simp [intOf]; omega
      · have HR : Hid (orI x y = s) := Lib.hid (by
          unfold orI
          by_cases e : k = 0
          · subst e; have := HXS.out; simp at this; subst this; rw [if_neg hs]
          · obtain rfl : k = 1 := by omega
            have := HXS.out; simp at this; subst this; rw [if_pos (H1.out (by omega))])
        go_wp2
        go_ret
        exact ⟨ret_int HR.out.symm, rfl⟩
    · obtain rfl : k = 2 := by omega
      have HR : Hid (orI x y = 0) := Lib.hid (by unfold orI; rw [if_pos (H1.out (by omega)), H2.out (by omega)])
      go_wp2
      go_ret
      exact ⟨ret_int HR.out.symm, rfl⟩

theorem rd_mid {w : World} {hi b o : Nat} {l : List Int} (h : w.rangeAt b o (V l)) (hb : b < hi) (hh : hi ≤ w.heap.size) (hl : l.length = 24) : Rd w hi (some ⟨b, o, none⟩) 24 (V l) :=
  ⟨by simpa [V] using hl, hh, fun _ => ⟨b, o, rfl, hb, fun j hj => by
    have e := V_getD (l := l) (k := j) (by omega)
    rw [e]; exact h j _ e⟩⟩
theorem cmpG_or (p q p' q' : List Int) : orI (cmpL p p') (cmpL q q') = cmpG p q p' q' := rfl
set_option maxHeartbeats 4000000 in
theorem compare_any (p q p' q' : List Int) (n n' : Nat) (w : World) (hp : p.length = 24) (hq : q.length = 24) (hp' : p'.length = 24) (hq' : q'.length = 24) :
    Calls Try.prog 47 #[.agg (V (gl p q n)).toArray, .agg (V (gl p' q' n')).toArray] w fun e w' => e = .returned (.int .i64 (cmpG p q p' q')) ∧ Below w.heap.size w w' := by
  go_enter Try.func47, Try.ntmps47
  go_wp2_with fail
  generalize hw1 : (w.alloc (.cells (V (gl p q n)).toArray 62)).alloc (.cells (V (gl p' q' n')).toArray 62) = w1
  have A0 : Hid (Arr w1 w.heap.size (V (gl p q n)) 62) := Lib.hid (by rw [← hw1]; exact (Arr.new w _ _ rfl).alloc _)
  have A1 : Hid (Arr w1 (w.heap.size + 1) (V (gl p' q' n')) 62) := Lib.hid (by rw [← hw1]; exact Arr.new _ _ _ (by simp))
  have B1 : Hid (Below w.heap.size w w1) := Lib.hid (by rw [← hw1]; exact ((Below.refl _ _).alloc (Nat.le_refl _) _).alloc (by simp) _)
  have s1 : w1.heap.size = w.heap.size + 2 := by rw [← hw1]; simp
  clear hw1
  refine wp_region_held_drew (S := Hld w1.heap.size w1.heap.size w1 [(w.heap.size, V (gl p q n)), (w.heap.size + 1, V (gl p' q' n'))]) (by kernel_rfl) (Hld.start2 A0.out A1.out) (fun hHeld => ?_)
  generalize w1.drew = w2 at *
  clear A0 A1
  refine wpAnyH_take (i := 0) (v := .pointer (some ⟨w.heap.size, 0, none⟩)) rfl (by kernel_rfl) (by kernel_rfl) (by kernel_rfl) (fun _ _ _ h => h) (Or.inl ⟨by rfl, fun w hSw => by go_simp⟩) hHeld ?_
  refine wpAnyH_take (i := 2) (v := .pointer (some ⟨w.heap.size + 1, 0, none⟩)) rfl (by kernel_rfl) (by kernel_rfl) (by kernel_rfl) (fun _ _ _ h => h) (Or.inl ⟨by rfl, fun w hSw => by go_simp⟩) hHeld ?_
  refine wpAnyH_take (i := 5) (v := .pointer (some ⟨w.heap.size, 24, none⟩)) rfl (by kernel_rfl) (by kernel_rfl) (by kernel_rfl) (fun _ _ _ h => h) (Or.inl ⟨by rfl, fun w hSw => by go_simp⟩) hHeld ?_
  refine wpAnyH_take (i := 7) (v := .pointer (some ⟨w.heap.size + 1, 24, none⟩)) rfl (by kernel_rfl) (by kernel_rfl) (by kernel_rfl) (fun _ _ _ h => h) (Or.inl ⟨by rfl, fun w hSw => by go_simp⟩) hHeld ?_
  refine wpAnyH_take (i := 1) (v := .slice (some ⟨w.heap.size, 0, none⟩) 24 24) rfl (by kernel_rfl) (by kernel_rfl) (by kernel_rfl) (fun _ _ _ h => h) (Or.inl ⟨by rfl, fun w hSw => by go_simp⟩) hHeld ?_
  refine wpAnyH_take (i := 3) (v := .slice (some ⟨w.heap.size + 1, 0, none⟩) 24 24) rfl (by kernel_rfl) (by kernel_rfl) (by kernel_rfl) (fun _ _ _ h => h) (Or.inl ⟨by rfl, fun w hSw => by go_simp⟩) hHeld ?_
  refine wpAnyH_take (i := 6) (v := .slice (some ⟨w.heap.size, 24, none⟩) 24 24) rfl (by kernel_rfl) (by kernel_rfl) (by kernel_rfl) (fun _ _ _ h => h) (Or.inl ⟨by rfl, fun w hSw => by go_simp⟩) hHeld ?_
  refine wpAnyH_take (i := 8) (v := .slice (some ⟨w.heap.size + 1, 24, none⟩) 24 24) rfl (by kernel_rfl) (by kernel_rfl) (by kernel_rfl) (fun _ _ _ h => h) (Or.inl ⟨by rfl, fun w hSw => by go_simp⟩) hHeld ?_
  have s2 : w1.heap.size ≤ w2.heap.size := hHeld.size
  refine wpAnyH_ready (rs := [4]) (by kernel_rfl) (by simp) (AllReadyH.cons rfl (fun K hK => ?_) AllReadyH.nil)
  go_simp
  refine (cmp_any _ _ _ _ _ _ p p' w2.heap.size w2.heap.size _ (rd_mid (rg_right hp hHeld.fst) (by omega) (Nat.le_refl _) hp) (rd_mid (rg_right hp' hHeld.snd) (by omega) (Nat.le_refl _) hp') (by unfold maxLen; omega) rfl).mono ?_
  rintro e w' ⟨rfl, rfl⟩
  go_wp2_with fail
  refine hK.out _ _ hHeld (fun hHeld2 => ?_)
  clear hK K hHeld2
  refine wpAnyH_ready (rs := [9]) (by kernel_rfl) (by simp) (AllReadyH.cons rfl (fun K hK => ?_) AllReadyH.nil)
  go_simp
  refine (cmp_any _ _ _ _ _ _ q q' w'.heap.size w'.heap.size _ (rd_mid (rg_up hp hq hHeld.fst) (by omega) (Nat.le_refl _) hq) (rd_mid (rg_up hp' hq' hHeld.snd) (by omega) (Nat.le_refl _) hq') (by unfold maxLen; omega) rfl).mono ?_
  rintro e w'' ⟨rfl, rfl⟩
  go_wp2_with fail
  refine hK.out _ _ hHeld (fun hHeld2 => ?_)
  clear hK K hHeld2
  refine wpAnyH_ready (rs := [10]) (by kernel_rfl) (by simp) (AllReadyH.cons rfl (fun K hK => ?_) AllReadyH.nil)
  go_simp
  have b1 : Below w''.heap.size w'' (w''.alloc (.cells #[.int .i64 (cmpL p p'), .int .i64 (cmpL q q')] 3)) := (Below.refl _ _).alloc (Nat.le_refl _) _
  have hHeld2 := hHeld.later b1 (Nat.le_refl _)
  have B2 : Hid (Below w.heap.size w (w''.alloc (.cells #[.int .i64 (cmpL p p'), .int .i64 (cmpL q q')] 3))) := Lib.hid ((B1.out.trans (hHeld.below.mono (by omega))).trans (b1.mono (by omega)))
  have A3 := Lib.hid (Arr.new w'' (V [cmpL p p', cmpL q q']) 3 rfl)
  refine hK.out _ _ hHeld2 (fun hHeld3 => ?_)
  clear hK K hHeld hHeld2 b1
  refine wpAnyH_ready (rs := [11]) (by kernel_rfl) (by simp) (AllReadyH.cons rfl (fun K hK => ?_) AllReadyH.nil)
  go_simp
  refine (or_any _ (cmpL p p') (cmpL q q') (w''.heap.size + 1) _ ⟨rfl, by simp, fun _ => ⟨w''.heap.size, 0, rfl, by omega, fun j hj => by
    have e := V_getD (l := [cmpL p p', cmpL q q']) (k := j) (by simpa using hj)
    rw [e, Nat.zero_add]; exact A3.out.cell e⟩⟩).mono ?_
  rintro e w3 ⟨rfl, rfl⟩
  rw [cmpG_or]
  go_wp2_with fail
  refine hK.out _ _ hHeld3 (fun hHeld2 => ?_)
  clear hK K hHeld2
  refine wpAnyH_ready (rs := [12]) (by kernel_rfl) (by simp) (AllReadyH.cons rfl (fun K hK => ?_) AllReadyH.nil)
  go_simp
  refine hK.out _ _ hHeld3 (fun hHeld2 => ?_)
  clear hK K hHeld2
  refine wpAnyH_done (by kernel_rfl) ?_ _
  go_wp2_with fail
  go_ret
  exact ⟨rfl, B2.out⟩
end Go.Proofs.Ytafpbnjfmieamaa.gl
