/-
  slices.Compare and cmp.Or at ints; the program's order of gluings, and the model's.
-/
import Derived.Test.YtabiakcndddmkaaGr
namespace Go.Proofs.Ytabiakcndddmkaa.gl
open Go.ChangeShapes Go.WideShapes Go.ChangeAt Go.RowKit
open Go.Proofs.Ytabiakcndddmkaa.mem Go.Proofs.Ytabiakcndddmkaa.ints Go.Proofs.Ytabiakcndddmkaa.arr Go.Proofs.Ytabiakcndddmkaa.pm Go.Proofs.Ytabiakcndddmkaa.permOk Go.Proofs.Ytabiakcndddmkaa.permOf Go.Proofs.Ytabiakcndddmkaa.inv Go.Proofs.Ytabiakcndddmkaa.fns Go.Proofs.Ytabiakcndddmkaa.sf
set_option linter.unusedVariables false
set_option maxRecDepth 100000

def cmpL : List Int → List Int → Int
  | a :: s, b :: t => if a = b then cmpL s t else if a < b then -1 else 1
  | [], [] => 0
  | [], _ :: _ => -1
  | _ :: _, [] => 1
theorem cmpL_at : ∀ (k : Nat) (xs ys : List Int) (s t : Int), Same xs ys k → xs[k]? = some s → ys[k]? = some t → s ≠ t → cmpL xs ys = if s < t then -1 else 1 := by
  intro k
  induction k with
  | zero =>
    intro xs ys s t _ h1 h2 hne
    cases xs with
    | nil => simp at h1
    | cons x xs =>
      cases ys with
      | nil => simp at h2
      | cons y ys =>
        simp at h1 h2
        subst h1; subst h2
        simp [cmpL, hne]
  | succ k ih =>
    intro xs ys s t hs h1 h2 hne
    cases xs with
    | nil => simp at h1
    | cons x xs =>
      cases ys with
      | nil => simp at h2
      | cons y ys =>
        have e : x = y := by have := hs 0 (by omega); simpa using this
        subst e
        simp at h1 h2
        simp only [cmpL, if_pos]
        exact ih xs ys s t (fun j hj => by have := hs (j + 1) (by omega); simpa using this) h1 h2 hne
theorem cmpL_same : ∀ xs : List Int, cmpL xs xs = 0 := by
  intro xs
  induction xs with
  | nil => rfl
  | cons x xs ih => simp [cmpL, ih]
theorem same_all {xs ys : List Int} {n : Nat} (h1 : xs.length = n) (h2 : ys.length = n) (h : Same xs ys n) : xs = ys := by
  have := eqi_yes h1 h2 h
  simpa [eqi] using this
theorem cmpL_range (xs ys : List Int) : cmpL xs ys = -1 ∨ cmpL xs ys = 0 ∨ cmpL xs ys = 1 := by
  induction xs generalizing ys with
  | nil => cases ys <;> simp [cmpL]
  | cons x xs ih =>
    cases ys with
    | nil => simp [cmpL]
    | cons y ys =>
      simp only [cmpL]
      split
      · exact ih ys
      · split <;> simp
theorem cmpL_less : ∀ (xs ys : List Int), xs.length = ys.length → (decide (cmpL xs ys < 0) = lessL xs ys) ∧ (cmpL xs ys = 0 ↔ xs = ys) := by
  intro xs
  induction xs with
  | nil => intro ys h; cases ys with
    | nil => simp [cmpL, lessL]
    | cons y ys => simp at h
  | cons x xs ih =>
    intro ys h
    cases ys with
    | nil => simp at h
    | cons y ys =>
      by_cases e : x = y
      · subst e
        rw [show cmpL (x :: xs) (x :: ys) = cmpL xs ys by simp [cmpL], show lessL (x :: xs) (x :: ys) = lessL xs ys by simp [lessL]]
        have := ih ys (by simpa using h)
        exact ⟨this.1, by rw [this.2]; simp⟩
      · rw [show cmpL (x :: xs) (y :: ys) = if x < y then -1 else 1 by simp [cmpL, e], show lessL (x :: xs) (y :: ys) = decide (x < y) by simp [lessL, e]]
        by_cases l : x < y
        · simp [l, e]
        · simp [l, e]
/-- Right first, then Up. -/
def cmpG (p q p' q' : List Int) : Int := if cmpL p p' = 0 then cmpL q q' else cmpL p p'
theorem cmpG_bef {p q p' q' : List Int} (h1 : p.length = p'.length) (h2 : q.length = q'.length) : decide (cmpG p q p' q' < 0) = bef (p, q) (p', q') := by
  unfold cmpG bef
  by_cases e : p = p'
  · subst e
    rw [if_pos (cmpL_same _), if_pos rfl]
    exact (cmpL_less q q' h2).1
  · rw [if_neg (fun h => e ((cmpL_less p p' h1).2.1 h)), if_neg e]
    exact (cmpL_less p p' h1).1
theorem ext_app (xs : List Int) (h : xs.length ≤ 24) : ext xs = xs ++ (ext xs).drop xs.length := by
  refine list_eq 24 (ext_len _) (by simp [ext_len]; omega) fun i hi => ?_
  by_cases hx : i < xs.length
  · rw [ext_at hi, if_pos hx]; simp [List.getD, List.getElem?_append_left hx, hx]
  · simp [List.getD, List.getElem?_append_right (Nat.le_of_not_lt hx), List.getElem?_drop, Nat.add_sub_cancel' (Nat.le_of_not_lt hx)]
set_option maxHeartbeats 1000000 in
theorem cmp_any (A : Option Addr) (n c : Nat) (B : Option Addr) (m d : Nat) (xs ys : List Int) (h1 h2 : Nat) (w : World)
    (hx : Rd w h1 A n (V xs)) (hy : Rd w h2 B m (V ys)) (hn : n ≤ maxLen) (hnm : n = m) :
    Calls Try.prog 60 #[.slice A n c, .slice B m d] w fun e w' => e = .returned (.int .i64 (cmpL xs ys)) ∧ w' = w := by
  subst hnm
  unfold maxLen at hn
  have lx : xs.length = n := by simpa [V] using hx.1
  have ly : ys.length = n := by simpa [V] using hy.1
  have LX := Lib.hid lx; have LY := Lib.hid ly; clear lx ly
  have HX := Lib.hid hx; have HY := Lib.hid hy; clear hx hy
  go_enter Try.func60, Try.ntmps60
  go_wp2
  go_loopw [11] (fun i wr => ∃ k : Nat, k ≤ n ∧ i = .int .i64 k ∧ wr = w ∧ Same xs ys k) (fun i _ => n - (intOf i).toNat)
  case atStart => refine ⟨0, Nat.zero_le _, ?_, ?_, fun j hj => by omega⟩ <;> first | rfl | trivial
  case round =>
    obtain ⟨k, hk, rfl, rfl, hsame⟩ := hrel
    have HS := Lib.hid hsame; clear hsame
    by_cases hlt : k < n
    · obtain ⟨g, off, u, rfl, _, hxu, hcx⟩ := HX.out.at_ hlt
      obtain ⟨g', off', u', rfl, _, hyu, hcy⟩ := HY.out.at_ hlt
      obtain ⟨s, hxs, rfl⟩ := V_at hxu
      obtain ⟨t, hyt, rfl⟩ := V_at hyu
      have HXS := Lib.hid hxs; have HYT := Lib.hid hyt; clear hxs hyt hxu hyu
      by_cases hst : s = t
      · subst hst
        go_wp2
        go_roundw
        case rel => exact ⟨k + 1, by omega, by go_num, by first | rfl | trivial, HS.out.step HXS.out HYT.out⟩
        case measure => simp [intOf]; omega
      · have HST := Lib.hid hst
        by_cases hl : s < t
        · have HC : Hid (cmpL xs ys = -1) := Lib.hid (by rw [cmpL_at k xs ys s t HS.out HXS.out HYT.out hst, if_pos hl])
          clear hst
          go_wp2
          go_ret
          exact ⟨ret_int HC.out.symm, rfl⟩
        · have HC : Hid (cmpL xs ys = 1) := Lib.hid (by rw [cmpL_at k xs ys s t HS.out HXS.out HYT.out hst, if_neg hl])
          have hg : decide (t < s) = true := by simp; omega
          have hl' : decide (s < t) = false := by simp; omega
          clear hst hl
          go_wp2
          go_ret
          exact ⟨ret_int HC.out.symm, rfl⟩
    · obtain rfl : k = n := by omega
      have HC : Hid (cmpL xs ys = 0) := Lib.hid (by rw [same_all LX.out LY.out HS.out]; exact cmpL_same _)
      go_wp2
      go_ret
      exact ⟨ret_int HC.out.symm, rfl⟩
def orI (x y : Int) : Int := if x = 0 then y else x
set_option maxHeartbeats 1000000 in
theorem or_any (A : Option Addr) (x y : Int) (hi : Nat) (w : World) (hx : Rd w hi A 2 (V [x, y])) :
    Calls Try.prog 59 #[.slice A 2 2] w fun e w' => e = .returned (.int .i64 (orI x y)) ∧ w' = w := by
  have HX := Lib.hid hx; clear hx
  go_enter Try.func59, Try.ntmps59
  go_wp2
  go_loopw [8] (fun i wr => ∃ k : Nat, k ≤ 2 ∧ i = .int .i64 k ∧ wr = w ∧ (1 ≤ k → x = 0) ∧ (2 ≤ k → y = 0)) (fun i _ => 2 - (intOf i).toNat)
  case atStart => refine ⟨0, Nat.zero_le _, ?_, ?_, fun h => by omega, fun h => by omega⟩ <;> first | rfl | trivial
  case round =>
    obtain ⟨k, hk, rfl, rfl, h1, h2⟩ := hrel
    have H1 := Lib.hid h1; have H2 := Lib.hid h2; clear h1 h2
    by_cases hlt : k < 2
    · obtain ⟨g, off, u, rfl, _, hxu, hcx⟩ := HX.out.at_ hlt
      obtain ⟨s, hxs, rfl⟩ := V_at hxu
      have HXS := Lib.hid hxs; clear hxs hxu
      by_cases hs : s = 0
      · have N1 : Hid (1 ≤ k + 1 → x = 0) := Lib.hid (fun _ => by
          by_cases e : k = 0
          · subst e; have := HXS.out; simp at this; omega
          · exact H1.out (by omega))
        have N2 : Hid (2 ≤ k + 1 → y = 0) := Lib.hid (fun h => by
          obtain rfl : k = 1 := by omega
          have := HXS.out; simp at this; omega)
        subst hs
        go_wp2
        go_roundw
        case rel => exact ⟨k + 1, by omega, by go_num, by first | rfl | trivial, N1.out, N2.out⟩
        case measure => simp [intOf]; omega
      · have HR : Hid (orI x y = s) := Lib.hid (by
          unfold orI
          by_cases e : k = 0
          · subst e; have := HXS.out; simp at this; subst this; rw [if_neg hs]
          · obtain rfl : k = 1 := by omega
            have := HXS.out; simp at this; subst this; rw [if_pos (H1.out (by omega))])
        go_wp2
        go_ret
        exact ⟨ret_int HR.out.symm, rfl⟩
    · obtain rfl : k = 2 := by omega
      have HR : Hid (orI x y = 0) := Lib.hid (by unfold orI; rw [if_pos (H1.out (by omega)), H2.out (by omega)])
      go_wp2
      go_ret
      exact ⟨ret_int HR.out.symm, rfl⟩

theorem rd_mid {w : World} {hi b o : Nat} {l : List Int} (h : w.rangeAt b o (V l)) (hb : b < hi) (hh : hi ≤ w.heap.size) (hl : l.length = 24) : Rd w hi (some ⟨b, o, none⟩) 24 (V l) :=
  ⟨by simpa [V] using hl, hh, fun _ => ⟨b, o, rfl, hb, fun j hj => by
    have e := V_getD (l := l) (k := j) (by omega)
    rw [e]; exact h j _ e⟩⟩
theorem cmpG_or (p q p' q' : List Int) : orI (cmpL p p') (cmpL q q') = cmpG p q p' q' := rfl
set_option maxHeartbeats 4000000 in
theorem compare_any (p q p' q' : List Int) (n n' : Nat) (w : World) (hp : p.length = 24) (hq : q.length = 24) (hp' : p'.length = 24) (hq' : q'.length = 24) :
    Calls Try.prog 41 #[.agg (V (gl p q n)).toArray, .agg (V (gl p' q' n')).toArray] w fun e w' => e = .returned (.int .i64 (cmpG p q p' q')) ∧ Below w.heap.size w w' := by
  go_enter Try.func41, Try.ntmps41
  go_wp2_with fail
  generalize hw1 : (w.alloc (.cells (V (gl p q n)).toArray 48)).alloc (.cells (V (gl p' q' n')).toArray 48) = w1
  have A0 : Hid (Arr w1 w.heap.size (V (gl p q n)) 48) := Lib.hid (by rw [← hw1]; exact (Arr.new w _ _ rfl).alloc _)
  have A1 : Hid (Arr w1 (w.heap.size + 1) (V (gl p' q' n')) 48) := Lib.hid (by rw [← hw1]; exact Arr.new _ _ _ (by simp))
  have B1 : Hid (Below w.heap.size w w1) := Lib.hid (by rw [← hw1]; exact ((Below.refl _ _).alloc (Nat.le_refl _) _).alloc (by simp) _)
  have s1 : w1.heap.size = w.heap.size + 2 := by rw [← hw1]; simp
  clear hw1
  refine wp_region_held_drew (S := Hld w1.heap.size w1.heap.size w1 [(w.heap.size, V (gl p q n)), (w.heap.size + 1, V (gl p' q' n'))]) (by kernel_rfl) (Hld.start2 A0.out A1.out) (fun hHeld => ?_)
  generalize w1.drew = w2 at *
  clear A0 A1
  refine wpAnyH_take (i := 0) (v := .pointer (some ⟨w.heap.size, 0, none⟩)) rfl (by kernel_rfl) (by kernel_rfl) (by kernel_rfl) (fun _ _ _ h => h) (Or.inl ⟨by rfl, fun w hSw => by go_simp⟩) hHeld ?_
  refine wpAnyH_take (i := 2) (v := .pointer (some ⟨w.heap.size + 1, 0, none⟩)) rfl (by kernel_rfl) (by kernel_rfl) (by kernel_rfl) (fun _ _ _ h => h) (Or.inl ⟨by rfl, fun w hSw => by go_simp⟩) hHeld ?_
  refine wpAnyH_take (i := 5) (v := .pointer (some ⟨w.heap.size, 24, none⟩)) rfl (by kernel_rfl) (by kernel_rfl) (by kernel_rfl) (fun _ _ _ h => h) (Or.inl ⟨by rfl, fun w hSw => by go_simp⟩) hHeld ?_
  refine wpAnyH_take (i := 7) (v := .pointer (some ⟨w.heap.size + 1, 24, none⟩)) rfl (by kernel_rfl) (by kernel_rfl) (by kernel_rfl) (fun _ _ _ h => h) (Or.inl ⟨by rfl, fun w hSw => by go_simp⟩) hHeld ?_
  refine wpAnyH_take (i := 1) (v := .slice (some ⟨w.heap.size, 0, none⟩) 24 24) rfl (by kernel_rfl) (by kernel_rfl) (by kernel_rfl) (fun _ _ _ h => h) (Or.inl ⟨by rfl, fun w hSw => by go_simp⟩) hHeld ?_
  refine wpAnyH_take (i := 3) (v := .slice (some ⟨w.heap.size + 1, 0, none⟩) 24 24) rfl (by kernel_rfl) (by kernel_rfl) (by kernel_rfl) (fun _ _ _ h => h) (Or.inl ⟨by rfl, fun w hSw => by go_simp⟩) hHeld ?_
  refine wpAnyH_take (i := 6) (v := .slice (some ⟨w.heap.size, 24, none⟩) 24 24) rfl (by kernel_rfl) (by kernel_rfl) (by kernel_rfl) (fun _ _ _ h => h) (Or.inl ⟨by rfl, fun w hSw => by go_simp⟩) hHeld ?_
  refine wpAnyH_take (i := 8) (v := .slice (some ⟨w.heap.size + 1, 24, none⟩) 24 24) rfl (by kernel_rfl) (by kernel_rfl) (by kernel_rfl) (fun _ _ _ h => h) (Or.inl ⟨by rfl, fun w hSw => by go_simp⟩) hHeld ?_
  have s2 : w1.heap.size ≤ w2.heap.size := hHeld.size
  refine wpAnyH_ready (rs := [4]) (by kernel_rfl) (by simp) (AllReadyH.cons rfl (fun K hK => ?_) AllReadyH.nil)
  go_simp
  refine (cmp_any _ _ _ _ _ _ p p' w2.heap.size w2.heap.size _ (rd_mid (rg_right hp hHeld.fst) (by omega) (Nat.le_refl _) hp) (rd_mid (rg_right hp' hHeld.snd) (by omega) (Nat.le_refl _) hp') (by unfold maxLen; omega) rfl).mono ?_
  rintro e w' ⟨rfl, rfl⟩
  go_wp2_with fail
  refine hK.out _ _ hHeld (fun hHeld2 => ?_)
  clear hK K hHeld2
  refine wpAnyH_ready (rs := [9]) (by kernel_rfl) (by simp) (AllReadyH.cons rfl (fun K hK => ?_) AllReadyH.nil)
  go_simp
  refine (cmp_any _ _ _ _ _ _ q q' w'.heap.size w'.heap.size _ (rd_mid (rg_up hp hq hHeld.fst) (by omega) (Nat.le_refl _) hq) (rd_mid (rg_up hp' hq' hHeld.snd) (by omega) (Nat.le_refl _) hq') (by unfold maxLen; omega) rfl).mono ?_
  rintro e w'' ⟨rfl, rfl⟩
  go_wp2_with fail
  refine hK.out _ _ hHeld (fun hHeld2 => ?_)
  clear hK K hHeld2
  refine wpAnyH_ready (rs := [10]) (by kernel_rfl) (by simp) (AllReadyH.cons rfl (fun K hK => ?_) AllReadyH.nil)
  go_simp
  have b1 : Below w''.heap.size w'' (w''.alloc (.cells #[.int .i64 (cmpL p p'), .int .i64 (cmpL q q')] 3)) := (Below.refl _ _).alloc (Nat.le_refl _) _
  have hHeld2 := hHeld.later b1 (Nat.le_refl _)
  have B2 : Hid (Below w.heap.size w (w''.alloc (.cells #[.int .i64 (cmpL p p'), .int .i64 (cmpL q q')] 3))) := Lib.hid ((B1.out.trans (hHeld.below.mono (by omega))).trans (b1.mono (by omega)))
  have A3 := Lib.hid (Arr.new w'' (V [cmpL p p', cmpL q q']) 3 rfl)
  refine hK.out _ _ hHeld2 (fun hHeld3 => ?_)
  clear hK K hHeld hHeld2 b1
  refine wpAnyH_ready (rs := [11]) (by kernel_rfl) (by simp) (AllReadyH.cons rfl (fun K hK => ?_) AllReadyH.nil)
  go_simp
  refine (or_any _ (cmpL p p') (cmpL q q') (w''.heap.size + 1) _ ⟨rfl, by simp, fun _ => ⟨w''.heap.size, 0, rfl, by omega, fun j hj => by
    have e := V_getD (l := [cmpL p p', cmpL q q']) (k := j) (by simpa using hj)
    rw [e, Nat.zero_add]; exact A3.out.cell e⟩⟩).mono ?_
  rintro e w3 ⟨rfl, rfl⟩
  rw [cmpG_or]
  go_wp2_with fail
  refine hK.out _ _ hHeld3 (fun hHeld2 => ?_)
  clear hK K hHeld2
  refine wpAnyH_ready (rs := [12]) (by kernel_rfl) (by simp) (AllReadyH.cons rfl (fun K hK => ?_) AllReadyH.nil)
  go_simp
  refine hK.out _ _ hHeld3 (fun hHeld2 => ?_)
  clear hK K hHeld2
  refine wpAnyH_done (by kernel_rfl) ?_ _
  go_wp2_with fail
  go_ret
  exact ⟨rfl, B2.out⟩
end Go.Proofs.Ytabiakcndddmkaa.gl
