import Derived.Test.YtpmojmhamgcfmaaGreatY10
import Derived.Maps.Own
import Derived.Maps.OwnSet
import Derived.Maps.RangeWalk
import Derived.ChangeKeysEq
import Derived.Laws.StructEq
/-
  slices.Compare and cmp.Or at ints; the program's order of gluings, and the model's.
-/
namespace Go.Proofs.YtpmojmhamgcfmaaGreat.gl
open Go.ChangeShapes Go.WideShapes Go.ChangeAt Go.RowKit
open Go.Proofs.YtpmojmhamgcfmaaGreat.mem Go.Proofs.YtpmojmhamgcfmaaGreat.ints Go.Proofs.YtpmojmhamgcfmaaGreat.arr Go.Proofs.YtpmojmhamgcfmaaGreat.pm Go.Proofs.YtpmojmhamgcfmaaGreat.permOk Go.Proofs.YtpmojmhamgcfmaaGreat.permOf Go.Proofs.YtpmojmhamgcfmaaGreat.inv Go.Proofs.YtpmojmhamgcfmaaGreat.fns Go.Proofs.YtpmojmhamgcfmaaGreat.sf
set_option linter.unusedVariables false
set_option maxRecDepth 100000

def cmpL : List Int → List Int → Int
  | a :: s, b :: t => if a = b then cmpL s t else if a < b then -1 else 1
  | [], [] => 0
  | [], _ :: _ => -1
  | _ :: _, [] => 1
theorem cmpL_at : ∀ (k : Nat) (xs ys : List Int) (s t : Int), Same xs ys k → xs[k]? = some s → ys[k]? = some t → s ≠ t → cmpL xs ys = if s < t then -1 else 1 := by
  intro k
  induction k with
  | zero =>
    intro xs ys s t _ h1 h2 hne
    cases xs with
    | nil => simp at h1
    | cons x xs =>
      cases ys with
      | nil => simp at h2
      | cons y ys =>
        simp at h1 h2
        subst h1; subst h2
        simp [cmpL, hne]
  | succ k ih =>
    intro xs ys s t hs h1 h2 hne
    cases xs with
    | nil => simp at h1
    | cons x xs =>
      cases ys with
      | nil => simp at h2
      | cons y ys =>
        have e : x = y := by have := hs 0 (by omega); simpa using this
        subst e
        simp at h1 h2
        simp only [cmpL, if_pos]
        exact ih xs ys s t (fun j hj => by have := hs (j + 1) (by omega); simpa using this) h1 h2 hne
theorem cmpL_same : ∀ xs : List Int, cmpL xs xs = 0 := by
  intro xs
  induction xs with
  | nil => rfl
  | cons x xs ih => simp [cmpL, ih]
theorem same_all {xs ys : List Int} {n : Nat} (h1 : xs.length = n) (h2 : ys.length = n) (h : Same xs ys n) : xs = ys := by
  have := eqi_yes h1 h2 h
  simpa [eqi] using this
theorem cmpL_range (xs ys : List Int) : cmpL xs ys = -1 ∨ cmpL xs ys = 0 ∨ cmpL xs ys = 1 := by
  induction xs generalizing ys with
  | nil => cases ys <;> simp [cmpL]
  | cons x xs ih =>
    cases ys with
    | nil => simp [cmpL]
    | cons y ys =>
      simp only [cmpL]
      split
      · exact ih ys
      · split <;> simp
theorem cmpL_less : ∀ (xs ys : List Int), xs.length = ys.length → (decide (cmpL xs ys < 0) = lessL xs ys) ∧ (cmpL xs ys = 0 ↔ xs = ys) := by
  intro xs
  induction xs with
  | nil => intro ys h; cases ys with
    | nil => simp [cmpL, lessL]
    | cons y ys => simp at h
  | cons x xs ih =>
    intro ys h
    cases ys with
    | nil => simp at h
    | cons y ys =>
      by_cases e : x = y
      · subst e
        rw [show cmpL (x :: xs) (x :: ys) = cmpL xs ys by simp [cmpL], show lessL (x :: xs) (x :: ys) = lessL xs ys by simp [lessL]]
        have := ih ys (by simpa using h)
        exact ⟨this.1, by rw [this.2]; simp⟩
      · rw [show cmpL (x :: xs) (y :: ys) = if x < y then -1 else 1 by simp [cmpL, e], show lessL (x :: xs) (y :: ys) = decide (x < y) by simp [lessL, e]]
        by_cases l : x < y
        · simp [l, e]
        · simp [l, e]
/-- Right first, then Up. -/
def cmpG (p q p' q' : List Int) : Int := if cmpL p p' = 0 then cmpL q q' else cmpL p p'
theorem cmpG_bef {p q p' q' : List Int} (h1 : p.length = p'.length) (h2 : q.length = q'.length) : decide (cmpG p q p' q' < 0) = bef (p, q) (p', q') := by
  unfold cmpG bef
  by_cases e : p = p'
  · subst e
    rw [if_pos (cmpL_same _), if_pos rfl]
    exact (cmpL_less q q' h2).1
  · rw [if_neg (fun h => e ((cmpL_less p p' h1).2.1 h)), if_neg e]
    exact (cmpL_less p p' h1).1
theorem ext_app (xs : List Int) (h : xs.length ≤ 24) : ext xs = xs ++ (ext xs).drop xs.length := by
  refine list_eq 24 (ext_len _) (by simp [ext_len]; omega) fun i hi => ?_
  by_cases hx : i < xs.length
  · rw [ext_at hi, if_pos hx]; simp [List.getD, List.getElem?_append_left hx, hx]
  · simp [List.getD, List.getElem?_append_right (Nat.le_of_not_lt hx), List.getElem?_drop, Nat.add_sub_cancel' (Nat.le_of_not_lt hx)]
set_option maxHeartbeats 1000000 in
theorem cmp_any (A : Option Addr) (n c : Nat) (B : Option Addr) (m d : Nat) (xs ys : List Int) (h1 h2 : Nat) (w : World)
    (hx : Rd w h1 A n (V xs)) (hy : Rd w h2 B m (V ys)) (hn : n ≤ maxLen) (hnm : n = m) :
    Calls Tryz.prog 13 #[.slice A n c, .slice B m d] w fun e w' => e = .returned (.int .i64 (cmpL xs ys)) ∧ w' = w := by
  subst hnm
  unfold maxLen at hn
  have lx : xs.length = n := by simpa [V] using hx.1
  have ly : ys.length = n := by simpa [V] using hy.1
  have LX := Lib.hid lx; have LY := Lib.hid ly; clear lx ly
  have HX := Lib.hid hx; have HY := Lib.hid hy; clear hx hy
  go_enter Tryz.func13, Tryz.ntmps13
  go_wp2
  go_loopw [11] (fun i wr => ∃ k : Nat, k ≤ n ∧ i = .int .i64 k ∧ wr = w ∧ Same xs ys k) (fun i _ => n - (intOf i).toNat)
  case atStart => refine ⟨0, Nat.zero_le _, ?_, ?_, fun j hj => by omega⟩ <;> first | rfl | trivial
  case round =>
    obtain ⟨k, hk, rfl, rfl, hsame⟩ := hrel
    have HS := Lib.hid hsame; clear hsame
    by_cases hlt : k < n
    · obtain ⟨g, off, u, rfl, _, hxu, hcx⟩ := HX.out.at_ hlt
      obtain ⟨g', off', u', rfl, _, hyu, hcy⟩ := HY.out.at_ hlt
      obtain ⟨s, hxs, rfl⟩ := V_at hxu
      obtain ⟨t, hyt, rfl⟩ := V_at hyu
      have HXS := Lib.hid hxs; have HYT := Lib.hid hyt; clear hxs hyt hxu hyu
      by_cases hst : s = t
      · subst hst
        go_wp2
        go_roundw
        case rel => exact ⟨k + 1, by omega, by go_num, by first | rfl | trivial, HS.out.step HXS.out HYT.out⟩
        case measure => simp [intOf]; omega
      · have HST := Lib.hid hst
        by_cases hl : s < t
        · have HC : Hid (cmpL xs ys = -1) := Lib.hid (by rw [cmpL_at k xs ys s t HS.out HXS.out HYT.out hst, if_pos hl])
          clear hst
          go_wp2
          go_ret
          exact ⟨ret_int HC.out.symm, rfl⟩
        · have HC : Hid (cmpL xs ys = 1) := Lib.hid (by rw [cmpL_at k xs ys s t HS.out HXS.out HYT.out hst, if_neg hl])
          have hg : decide (t < s) = true := by simp; omega
          have hl' : decide (s < t) = false := by simp; omega
          clear hst hl
          go_wp2
          go_ret
          exact ⟨ret_int HC.out.symm, rfl⟩
    · obtain rfl : k = n := by omega
      have HC : Hid (cmpL xs ys = 0) := Lib.hid (by rw [same_all LX.out LY.out HS.out]; exact cmpL_same _)
      go_wp2
      go_ret
      exact ⟨ret_int HC.out.symm, rfl⟩
def orI (x y : Int) : Int := if x = 0 then y else x
set_option maxHeartbeats 1000000 in
theorem or_any (A : Option Addr) (x y : Int) (hi : Nat) (w : World) (hx : Rd w hi A 2 (V [x, y])) :
    Calls Tryz.prog 63 #[.slice A 2 2] w fun e w' => e = .returned (.int .i64 (orI x y)) ∧ w' = w := by
  have HX := Lib.hid hx; clear hx
  go_enter Tryz.func63, Tryz.ntmps63
  go_wp2
  go_loopw [8] (fun i wr => ∃ k : Nat, k ≤ 2 ∧ i = .int .i64 k ∧ wr = w ∧ (1 ≤ k → x = 0) ∧ (2 ≤ k → y = 0)) (fun i _ => 2 - (intOf i).toNat)
  case atStart => refine ⟨0, Nat.zero_le _, ?_, ?_, fun h => by omega, fun h => by omega⟩ <;> first | rfl | trivial
  case round =>
    obtain ⟨k, hk, rfl, rfl, h1, h2⟩ := hrel
    have H1 := Lib.hid h1; have H2 := Lib.hid h2; clear h1 h2
    by_cases hlt : k < 2
    · obtain ⟨g, off, u, rfl, _, hxu, hcx⟩ := HX.out.at_ hlt
      obtain ⟨s, hxs, rfl⟩ := V_at hxu
      have HXS := Lib.hid hxs; clear hxs hxu
      by_cases hs : s = 0
      · have N1 : Hid (1 ≤ k + 1 → x = 0) := Lib.hid (fun _ => by
          by_cases e : k = 0
          · subst e; have := HXS.out; simp at this; omega
          · exact H1.out (by omega))
        have N2 : Hid (2 ≤ k + 1 → y = 0) := Lib.hid (fun h => by
          obtain rfl : k = 1 := by omega
          have := HXS.out; simp at this; omega)
        subst hs
        go_wp2
        go_roundw
        case rel => exact ⟨k + 1, by omega, by go_num, by first | rfl | trivial, N1.out, N2.out⟩
        case measure => simp [intOf]; omega
      · have HR : Hid (orI x y = s) := Lib.hid (by
          unfold orI
          by_cases e : k = 0
          · subst e; have := HXS.out; simp at this; subst this; rw [if_neg hs]
          · obtain rfl : k = 1 := by omega
            have := HXS.out; simp at this; subst this; rw [if_pos (H1.out (by omega))])
        go_wp2
        go_ret
        exact ⟨ret_int HR.out.symm, rfl⟩
    · obtain rfl : k = 2 := by omega
      have HR : Hid (orI x y = 0) := Lib.hid (by unfold orI; rw [if_pos (H1.out (by omega)), H2.out (by omega)])
      go_wp2
      go_ret
      exact ⟨ret_int HR.out.symm, rfl⟩

theorem rd_mid {w : World} {hi b o : Nat} {l : List Int} (h : w.rangeAt b o (V l)) (hb : b < hi) (hh : hi ≤ w.heap.size) (hl : l.length = 24) : Rd w hi (some ⟨b, o, none⟩) 24 (V l) :=
  ⟨by simpa [V] using hl, hh, fun _ => ⟨b, o, rfl, hb, fun j hj => by
    have e := V_getD (l := l) (k := j) (by omega)
    rw [e]; exact h j _ e⟩⟩
theorem cmpG_or (p q p' q' : List Int) : orI (cmpL p p') (cmpL q q') = cmpG p q p' q' := rfl
set_option maxHeartbeats 4000000 in
theorem compare_any (p q p' q' : List Int) (n n' : Nat) (w : World) (hp : p.length = 24) (hq : q.length = 24) (hp' : p'.length = 24) (hq' : q'.length = 24) :
    Calls Tryz.prog 44 #[.agg (V (gl p q n)).toArray, .agg (V (gl p' q' n')).toArray] w fun e w' => e = .returned (.int .i64 (cmpG p q p' q')) ∧ Below w.heap.size w w' := by
  go_enter Tryz.func44, Tryz.ntmps44
  go_wp2_with fail
  generalize hw1 : (w.alloc (.cells (V (gl p q n)).toArray 62)).alloc (.cells (V (gl p' q' n')).toArray 62) = w1
  have A0 : Hid (Arr w1 w.heap.size (V (gl p q n)) 62) := Lib.hid (by rw [← hw1]; exact (Arr.new w _ _ rfl).alloc _)
  have A1 : Hid (Arr w1 (w.heap.size + 1) (V (gl p' q' n')) 62) := Lib.hid (by rw [← hw1]; exact Arr.new _ _ _ (by simp))
  have B1 : Hid (Below w.heap.size w w1) := Lib.hid (by rw [← hw1]; exact ((Below.refl _ _).alloc (Nat.le_refl _) _).alloc (by simp) _)
  have s1 : w1.heap.size = w.heap.size + 2 := by rw [← hw1]; simp
  clear hw1
  refine wp_region_held_drew (S := Hld w1.heap.size w1.heap.size w1 [(w.heap.size, V (gl p q n)), (w.heap.size + 1, V (gl p' q' n'))]) (by kernel_rfl) (Hld.start2 A0.out A1.out) (fun hHeld => ?_)
  generalize w1.drew = w2 at *
  clear A0 A1
  refine wpAnyH_take (i := 0) (v := .pointer (some ⟨w.heap.size, 0, none⟩)) rfl (by kernel_rfl) (by kernel_rfl) (by kernel_rfl) (fun _ _ _ h => h) (Or.inl ⟨by rfl, fun w hSw => by go_simp⟩) hHeld ?_
  refine wpAnyH_take (i := 2) (v := .pointer (some ⟨w.heap.size + 1, 0, none⟩)) rfl (by kernel_rfl) (by kernel_rfl) (by kernel_rfl) (fun _ _ _ h => h) (Or.inl ⟨by rfl, fun w hSw => by go_simp⟩) hHeld ?_
  refine wpAnyH_take (i := 5) (v := .pointer (some ⟨w.heap.size, 24, none⟩)) rfl (by kernel_rfl) (by kernel_rfl) (by kernel_rfl) (fun _ _ _ h => h) (Or.inl ⟨by rfl, fun w hSw => by go_simp⟩) hHeld ?_
  refine wpAnyH_take (i := 7) (v := .pointer (some ⟨w.heap.size + 1, 24, none⟩)) rfl (by kernel_rfl) (by kernel_rfl) (by kernel_rfl) (fun _ _ _ h => h) (Or.inl ⟨by rfl, fun w hSw => by go_simp⟩) hHeld ?_
  refine wpAnyH_take (i := 1) (v := .slice (some ⟨w.heap.size, 0, none⟩) 24 24) rfl (by kernel_rfl) (by kernel_rfl) (by kernel_rfl) (fun _ _ _ h => h) (Or.inl ⟨by rfl, fun w hSw => by go_simp⟩) hHeld ?_
  refine wpAnyH_take (i := 3) (v := .slice (some ⟨w.heap.size + 1, 0, none⟩) 24 24) rfl (by kernel_rfl) (by kernel_rfl) (by kernel_rfl) (fun _ _ _ h => h) (Or.inl ⟨by rfl, fun w hSw => by go_simp⟩) hHeld ?_
  refine wpAnyH_take (i := 6) (v := .slice (some ⟨w.heap.size, 24, none⟩) 24 24) rfl (by kernel_rfl) (by kernel_rfl) (by kernel_rfl) (fun _ _ _ h => h) (Or.inl ⟨by rfl, fun w hSw => by go_simp⟩) hHeld ?_
  refine wpAnyH_take (i := 8) (v := .slice (some ⟨w.heap.size + 1, 24, none⟩) 24 24) rfl (by kernel_rfl) (by kernel_rfl) (by kernel_rfl) (fun _ _ _ h => h) (Or.inl ⟨by rfl, fun w hSw => by go_simp⟩) hHeld ?_
  have s2 : w1.heap.size ≤ w2.heap.size := hHeld.size
  refine wpAnyH_ready (rs := [4]) (by kernel_rfl) (by simp) (AllReadyH.cons rfl (fun K hK => ?_) AllReadyH.nil)
  go_simp
  refine (cmp_any _ _ _ _ _ _ p p' w2.heap.size w2.heap.size _ (rd_mid (rg_right hp hHeld.fst) (by omega) (Nat.le_refl _) hp) (rd_mid (rg_right hp' hHeld.snd) (by omega) (Nat.le_refl _) hp') (by unfold maxLen; omega) rfl).mono ?_
  rintro e w' ⟨rfl, rfl⟩
  go_wp2_with fail
  refine hK.out _ _ hHeld (fun hHeld2 => ?_)
  clear hK K hHeld2
  refine wpAnyH_ready (rs := [9]) (by kernel_rfl) (by simp) (AllReadyH.cons rfl (fun K hK => ?_) AllReadyH.nil)
  go_simp
  refine (cmp_any _ _ _ _ _ _ q q' w'.heap.size w'.heap.size _ (rd_mid (rg_up hp hq hHeld.fst) (by omega) (Nat.le_refl _) hq) (rd_mid (rg_up hp' hq' hHeld.snd) (by omega) (Nat.le_refl _) hq') (by unfold maxLen; omega) rfl).mono ?_
  rintro e w'' ⟨rfl, rfl⟩
  go_wp2_with fail
  refine hK.out _ _ hHeld (fun hHeld2 => ?_)
  clear hK K hHeld2
  refine wpAnyH_ready (rs := [10]) (by kernel_rfl) (by simp) (AllReadyH.cons rfl (fun K hK => ?_) AllReadyH.nil)
  go_simp
  have b1 : Below w''.heap.size w'' (w''.alloc (.cells #[.int .i64 (cmpL p p'), .int .i64 (cmpL q q')] 3)) := (Below.refl _ _).alloc (Nat.le_refl _) _
  have hHeld2 := hHeld.later b1 (Nat.le_refl _)
  have B2 : Hid (Below w.heap.size w (w''.alloc (.cells #[.int .i64 (cmpL p p'), .int .i64 (cmpL q q')] 3))) := Lib.hid ((B1.out.trans (hHeld.below.mono (by omega))).trans (b1.mono (by omega)))
  have A3 := Lib.hid (Arr.new w'' (V [cmpL p p', cmpL q q']) 3 rfl)
  refine hK.out _ _ hHeld2 (fun hHeld3 => ?_)
  clear hK K hHeld hHeld2 b1
  refine wpAnyH_ready (rs := [11]) (by kernel_rfl) (by simp) (AllReadyH.cons rfl (fun K hK => ?_) AllReadyH.nil)
  go_simp
  refine (or_any _ (cmpL p p') (cmpL q q') (w''.heap.size + 1) _ ⟨rfl, by simp, fun _ => ⟨w''.heap.size, 0, rfl, by omega, fun j hj => by
    have e := V_getD (l := [cmpL p p', cmpL q q']) (k := j) (by simpa using hj)
    rw [e, Nat.zero_add]; exact A3.out.cell e⟩⟩).mono ?_
  rintro e w3 ⟨rfl, rfl⟩
  rw [cmpG_or]
  go_wp2_with fail
  refine hK.out _ _ hHeld3 (fun hHeld2 => ?_)
  clear hK K hHeld2
  refine wpAnyH_ready (rs := [12]) (by kernel_rfl) (by simp) (AllReadyH.cons rfl (fun K hK => ?_) AllReadyH.nil)
  go_simp
  refine hK.out _ _ hHeld3 (fun hHeld2 => ?_)
  clear hK K hHeld2
  refine wpAnyH_done (by kernel_rfl) ?_ _
  go_wp2_with fail
  go_ret
  exact ⟨rfl, B2.out⟩
end Go.Proofs.YtpmojmhamgcfmaaGreat.gl

/-
  NamesFrom, of the model and of the program.
-/
namespace Go.Proofs.YtpmojmhamgcfmaaGreat.gl
open Go.ChangeShapes Go.WideShapes Go.ChangeAt Go.RowKit
open Go.Proofs.YtpmojmhamgcfmaaGreat.mem Go.Proofs.YtpmojmhamgcfmaaGreat.ints Go.Proofs.YtpmojmhamgcfmaaGreat.arr Go.Proofs.YtpmojmhamgcfmaaGreat.pm Go.Proofs.YtpmojmhamgcfmaaGreat.permOk Go.Proofs.YtpmojmhamgcfmaaGreat.permOf Go.Proofs.YtpmojmhamgcfmaaGreat.inv Go.Proofs.YtpmojmhamgcfmaaGreat.fns Go.Proofs.YtpmojmhamgcfmaaGreat.sf
set_option linter.unusedVariables false
set_option maxRecDepth 100000

theorem ext_take (xs : List Int) (h : xs.length ≤ 24) : (ext xs).take xs.length = xs := by
  refine list_eq xs.length (by simp [ext_len]; omega) rfl fun i hi => ?_
  have e : (ext xs).getD i 0 = xs.getD i 0 := by rw [ext_at (by omega), if_pos hi]
  rw [← e]
  simp [List.getD, hi]
/-- The names from a square, if there is one. -/
def nfF (r u : List Int) (a : Int) : List Int := if transB r u = true ∧ 0 ≤ a ∧ a < r.length then nm r u a else []
theorem nfF_no {r u : List Int} {a : Int} (h : ¬ (transB r u = true ∧ 0 ≤ a ∧ a < r.length)) : nfF r u a = [] := by unfold nfF; rw [if_neg h]
theorem nfF_yes {r u : List Int} {a : Int} (h : transB r u = true) (a0 : 0 ≤ a) (a1 : a < r.length) : nfF r u a = nm r u a := by unfold nfF; rw [if_pos ⟨h, a0, a1⟩]
theorem nfF_len (r u : List Int) (a : Int) : (nfF r u a).length ≤ 1048576 := by
  unfold nfF; split
  · rename_i h
    obtain ⟨nk, nl⟩ := (transB_iff.1 h.1).nok h.2.1 h.2.2
    have := nk.len; omega
  · simp

end Go.Proofs.YtpmojmhamgcfmaaGreat.gl

/-
  Words for the program's map of names: how an element reads, which keys are there; comparing two gluings; the order of forms.
-/
namespace Go.Proofs.YtpmojmhamgcfmaaGreat.gl
open Go.ChangeShapes Go.WideShapes Go.ChangeAt Go.RowKit Go.Maps
open Go.Proofs.YtpmojmhamgcfmaaGreat.mem Go.Proofs.YtpmojmhamgcfmaaGreat.ints Go.Proofs.YtpmojmhamgcfmaaGreat.arr Go.Proofs.YtpmojmhamgcfmaaGreat.pm Go.Proofs.YtpmojmhamgcfmaaGreat.permOk Go.Proofs.YtpmojmhamgcfmaaGreat.permOf Go.Proofs.YtpmojmhamgcfmaaGreat.inv Go.Proofs.YtpmojmhamgcfmaaGreat.fns Go.Proofs.YtpmojmhamgcfmaaGreat.sf
set_option linter.unusedVariables false
set_option maxRecDepth 100000

/-- The integers of a row of cells. -/
def unI : List Value → Option (List Int)
  | [] => some []
  | .int .i64 a :: r => (unI r).map (a :: ·)
  | _ :: _ => none
theorem unI_V : ∀ l : List Int, unI (V l) = some l := by
  intro l
  induction l with
  | nil => rfl
  | cons a l ih => show (unI (V l)).map _ = _; rw [ih]; rfl
theorem V_unI : ∀ (vs : List Value) (l : List Int), unI vs = some l → vs = V l
  | [], l, h => by simp [unI] at h; subst h; rfl
  | v :: vs, l, h => by
    unfold unI at h
    split at h
    · rename_i e; cases e
    · rename_i a r e
      injection e with e1 e2
      subst e1; subst e2
      simp only [Option.map_eq_some_iff] at h
      obtain ⟨m, hm, rfl⟩ := h
      rw [V_unI vs m hm]; rfl
    · cases h
def dat (l : List Int) : DataW Unit := .agg (l.map fun a => .lit (.int .i64 a))
theorem dat_inj {l l' : List Int} (h : dat l = dat l') : l = l' := by
  unfold dat at h
  injection h with h
  induction l generalizing l' with
  | nil => cases l' with
    | nil => rfl
    | cons b l' => simp at h
  | cons a l ih => cases l' with
    | nil => simp at h
    | cons b l' => simp at h; rw [h.1, ih (by simpa using h.2)]
/-- How an element of the map reads. -/
def pElem : Value → Option (DataW Unit × List MemPlace)
  | .agg cs => (unI cs.toList).map fun l => (dat l, [])
  | _ => none
theorem pElem_mk (l : List Int) : pElem (.agg (V l).toArray) = some (dat l, []) := by
  show (unI (V l).toArray.toList).map _ = _
  rw [show (V l).toArray.toList = V l from rfl, unI_V]; rfl
theorem pElem_inv {v : Value} {y : DataW Unit × List MemPlace} (h : pElem v = some y) : ∃ l, v = .agg (V l).toArray ∧ y = (dat l, []) := by
  unfold pElem at h
  split at h
  · rename_i cs
    simp only [Option.map_eq_some_iff] at h
    obtain ⟨l, hl, rfl⟩ := h
    refine ⟨l, ?_, rfl⟩
    have := V_unI _ _ hl
    rw [← this]
  · cases h
theorem lawI : Keyed Tryz.prog 3 := int_keyed Tryz.underlying3
def kk (i : Nat) : Lit := .int .i64 (i : Int)
theorem kk_inj {i j : Nat} (h : kk i = kk j) : i = j := by simp [kk] at h; omega
theorem kk_key {i : Nat} (h : i < 1024) : keyOf Tryz.prog 3 (.int .i64 (i : Int)) = some (kk i) := keyOf_int_mk Tryz.underlying3 (by simp [Lit.wf, IntKind.min, IntKind.max, IntKind.signed, IntKind.bits]; omega)
theorem kk_lit (i : Nat) : WideAt.IsKeyLit (kk i) := trivial

/-- The keys of D are those i below N that are kept, and at i it holds f i. -/
structure Holds (D : DataW Unit) (N : Nat) (keep : Nat → Bool) (f : Nat → List Int) : Prop where
  tidy : Tidy D
  key : ∀ k, has D k = true → ∃ i, i < N ∧ keep i = true ∧ k = kk i
  has_ : ∀ i, i < N → keep i = true → has D (kk i) = true
  at_ : ∀ i, i < N → keep i = true → ∀ z, D.atKey (kk i) z = dat (f i)
theorem Holds.empty (f : Nat → List Int) (keep : Nat → Bool) : Holds (.map []) 0 keep f :=
  ⟨tidy_empty, fun k h => by simp [has] at h, fun i h => by omega, fun i h => by omega⟩
theorem Holds.put {D : DataW Unit} {N : Nat} {f : Nat → List Int} (h : Holds D N (fun _ => true) f) : Holds (D.put (kk N) (dat (f N))) (N + 1) (fun _ => true) f := by
  refine ⟨h.tidy.put (kk_lit N) _, fun k hk => ?_, fun i hi _ => ?_, fun i hi _ z => ?_⟩
  · by_cases e : k = kk N
    · exact ⟨N, by omega, rfl, e⟩
    · rw [has_put_other e] at hk
      obtain ⟨i, a, b, c⟩ := h.key k hk
      exact ⟨i, by omega, b, c⟩
  · by_cases e : i = N
    · subst e; exact has_put_same h.tidy.isMap (kk_lit _) _
    · rw [has_put_other (fun e2 => e (kk_inj e2))]; exact h.has_ i (by omega) rfl
  · by_cases e : i = N
    · subst e; exact atKey_put_same h.tidy.isMap (kk_lit _) _ _
    · rw [atKey_put_other (fun e2 => e (kk_inj e2))]; exact h.at_ i (by omega) rfl z
theorem Holds.del {D : DataW Unit} {N j : Nat} {keep keep' : Nat → Bool} {f : Nat → List Int} (h : Holds D N keep f) (h1 : ∀ i, i < N → i ≠ j → keep' i = keep i) (h2 : keep' j = false) : Holds (D.del (kk j)) N keep' f := by
  refine ⟨h.tidy.del _, fun k hk => ?_, fun i hi hki => ?_, fun i hi hki z => ?_⟩
  · by_cases e : k = kk j
    · subst e; rw [has_del_same] at hk; cases hk
    · rw [has_del_other e] at hk
      obtain ⟨i, a, b, rfl⟩ := h.key k hk
      exact ⟨i, a, by rw [h1 i a (fun e2 => e (by rw [e2]))]; exact b, rfl⟩
  · have e : i ≠ j := fun e => by subst e; rw [h2] at hki; cases hki
    rw [has_del_other (fun e2 => e (kk_inj e2))]
    exact h.has_ i hi (by rw [← h1 i hi e]; exact hki)
  · have e : i ≠ j := fun e => by subst e; rw [h2] at hki; cases hki
    rw [atKey_del_other (fun e2 => e (kk_inj e2))]
    exact h.at_ i hi (by rw [← h1 i hi e]; exact hki) z
theorem Holds.congr {D : DataW Unit} {N : Nat} {keep keep' : Nat → Bool} {f : Nat → List Int} (h : Holds D N keep f) (h1 : ∀ i, i < N → keep' i = keep i) : Holds D N keep' f :=
  ⟨h.tidy, fun k hk => by obtain ⟨i, a, b, c⟩ := h.key k hk; exact ⟨i, a, by rw [h1 i a]; exact b, c⟩, fun i hi hk => h.has_ i hi (by rw [← h1 i hi]; exact hk), fun i hi hk => h.at_ i hi (by rw [← h1 i hi]; exact hk)⟩
theorem nodup_len_le {α : Type} : ∀ (l m : List α), l.Nodup → (∀ x ∈ l, x ∈ m) → l.length ≤ m.length := by
  classical
  intro l
  induction l with
  | nil => intros; simp
  | cons a l ih =>
    intro m hn hs
    rw [List.nodup_cons] at hn
    have ha : a ∈ m := hs a (by simp)
    have := ih (m.erase a) hn.2 (fun x hx => (List.mem_erase_of_ne (fun e => hn.1 (by rw [← e]; exact hx))).2 (hs x (by simp [hx])))
    rw [List.length_erase_of_mem ha] at this
    have : 0 < m.length := List.length_pos_of_mem ha
    simp; omega
/-- How many entries there are. -/
theorem Holds.size {D : DataW Unit} {N : Nat} {keep : Nat → Bool} {f : Nat → List Int} (h : Holds D N keep f) {es : List (Lit × DataW Unit)} (hD : D = .map es) (hp : es.Pairwise (fun p q => p.1 ≠ q.1)) (hl : ∀ p ∈ es, WideAt.IsKeyLit p.1) : Maps.size D = (List.range N).countP keep := by
  subst hD
  have a1 : (es.map (·.1)).Nodup := by unfold List.Nodup; rw [List.pairwise_map]; exact hp
  have a2 : (((List.range N).filter keep).map kk).Nodup := by
    unfold List.Nodup
    rw [List.pairwise_map]
    exact (List.nodup_range.sublist List.filter_sublist).imp (fun hne e => hne (kk_inj e))
  have b1 : ∀ x ∈ es.map (·.1), x ∈ ((List.range N).filter keep).map kk := fun x hx => by
    obtain ⟨p, hp1, rfl⟩ := List.mem_map.1 hx
    obtain ⟨i, i1, i2, e⟩ := h.key p.1 (by rw [has_eq, List.any_eq_true]; exact ⟨p, hp1, WideAt.sameKey_self (hl p hp1)⟩)
    rw [e]
    exact List.mem_map.2 ⟨i, List.mem_filter.2 ⟨List.mem_range.2 i1, i2⟩, rfl⟩
  have b2 : ∀ x ∈ ((List.range N).filter keep).map kk, x ∈ es.map (·.1) := fun x hx => by
    obtain ⟨i, hi, rfl⟩ := List.mem_map.1 hx
    obtain ⟨i1, i2⟩ := List.mem_filter.1 hi
    have := h.has_ i (List.mem_range.1 i1) i2
    rw [has_eq, List.any_eq_true] at this
    obtain ⟨p, hp1, hp2⟩ := this
    exact List.mem_map.2 ⟨p, hp1, WideAt.sameKey_eq hp2⟩
  have c1 := nodup_len_le _ _ a1 b1
  have c2 := nodup_len_le _ _ a2 b2
  rw [size_eq, List.countP_eq_length_filter]
  simp at c1 c2
  omega

/-! Comparing -/
theorem part_perm (cs : Array Value) (off : Nat) (w : World) : (part 60 cs off).run Tryz.prog w = .ok (.agg (cs.extract off (off + 24))) w := by
  have h1 : (isAgg 60).run Tryz.prog w = .ok true w := by kernel_rfl
  have h2 : (sizeOf 60).run Tryz.prog w = .ok 24 w := by kernel_rfl
  simp only [part, Sem.run_bind, h1, Result.andThen_ok, if_true, h2, Sem.run_pure]
theorem part_int {cs : Array Value} {off : Nat} {v : Value} (h : cs[off]? = some v) (w : World) : (part 3 cs off).run Tryz.prog w = .ok v w := run_part_plain w (by kernel_rfl) h
theorem eqItems_V (l l' : List Int) (d : Nat) (w : World) : ∀ is : List Nat, (∀ i ∈ is, i < l.length ∧ i < l'.length) →
    (Op.eqItems (d + 1) 3 1 (V l).toArray (V l').toArray is).run Tryz.prog w = .ok (decide (∀ i ∈ is, l.getD i 0 = l'.getD i 0)) w := by
  intro is
  induction is with
  | nil => intro _; simp [Op.eqItems]
  | cons i is ih =>
    intro h
    have h1 := part_int (cs := (V l).toArray) (off := i * 1) (v := .int .i64 (l.getD i 0)) (by simpa using V_getD (h i (by simp)).1) w
    have h2 := part_int (cs := (V l').toArray) (off := i * 1) (v := .int .i64 (l'.getD i 0)) (by simpa using V_getD (h i (by simp)).2) w
    have h3 : (Op.equalIn (d + 1) 3 (.int .i64 (l.getD i 0)) (.int .i64 (l'.getD i 0))).run Tryz.prog w = .ok (l.getD i 0 == l'.getD i 0) w := run_equalIn_int w d _ .i64 .i64 _ _ Tryz.underlying3
    have h4 := ih (fun j hj => h j (by simp [hj]))
    have e5 : decide (∀ j ∈ i :: is, l.getD j 0 = l'.getD j 0) = (decide (l.getD i 0 = l'.getD i 0) && decide (∀ j ∈ is, l.getD j 0 = l'.getD j 0)) := by
      rw [← Bool.decide_and, decide_eq_decide]; exact List.forall_mem_cons
    rw [e5]
    generalize l.getD i 0 = a at *
    generalize l'.getD i 0 = b at *
    simp only [Op.eqItems, Sem.run_bind, h1, h2, h3, Result.andThen_ok]
    by_cases e : a = b
    · subst e
      simpa using h4
    · have : (a == b) = false := by simpa using e
      simp only [this, e, Bool.not_false, if_true, Sem.run_pure, decide_false, Bool.false_and]
theorem eq_perm {p p' : List Int} (hp : p.length = 24) (hp' : p'.length = 24) (d : Nat) (w : World) :
    (Op.equalIn (d + 2) 60 (.agg (V p).toArray) (.agg (V p').toArray)).run Tryz.prog w = .ok (decide (p = p')) w := by
  obtain ⟨i0, hi0, hz0, hz1, hz2⟩ := info_parts infoI
  have hc : Tryz.prog.cellsOf 3 = 1 := by kernel_rfl
  rw [run_equalIn_array w (d + 1) _ _ Tryz.underlying60 hi0, hc, eqItems_V _ _ _ _ _ (fun i hi => by simp at hi; omega)]
  congr 1
  rw [decide_eq_decide]
  constructor
  · intro h; exact list_eq 24 hp hp' (fun i hi => h i (by simpa using hi))
  · rintro rfl i _; rfl
theorem V_ext {l : List Int} {a b : Nat} {m : List Int} (h : (l.drop a).take (b - a) = m) : (V l).toArray.extract a b = (V m).toArray := by
  subst h
  simp [V, List.map_take, List.map_drop]
set_option maxHeartbeats 1000000 in
theorem eq_gl {p q p' q' : List Int} (hp : p.length = 24) (hq : q.length = 24) (hp' : p'.length = 24) (hq' : q'.length = 24) (n : Nat) (w : World) :
    (Op.equalIn 10000 62 (.agg (V (gl p q n)).toArray) (.agg (V (gl p' q' n)).toArray)).run Tryz.prog w = .ok (decide (p = p' ∧ q = q')) w := by
  have hf : (Tryz.prog.fieldsOf 62).toList.map (fun f => (f.name, f.type, f.offset)) = [("right", 60, 0), ("up", 60, 24), ("count", 3, 48)] := by kernel_rfl
  rw [run_equalIn_struct w 9999 _ _ _ (by kernel_rfl) (by kernel_rfl)]
  generalize (Tryz.prog.fieldsOf 62).toList = fs at hf
  have hl : fs.length = 3 := by have := congrArg List.length hf; simpa using this
  match fs, hl, hf with
  | [f0, f1, f2], _, hf =>
    simp only [List.map_cons, List.map_nil, List.cons.injEq, Prod.mk.injEq, and_true] at hf
    obtain ⟨⟨a1, a2, a3⟩, ⟨b1, b2, b3⟩, c1, c2, c3⟩ := hf
    have x1 : ∀ {r s : List Int}, r.length = 24 → s.length = 24 → (V (gl r s n)).toArray.extract 0 (0 + 24) = (V r).toArray := fun hr hs => V_ext (by simp [gl, hr])
    have x2 : ∀ {r s : List Int}, r.length = 24 → s.length = 24 → (V (gl r s n)).toArray.extract 24 (24 + 24) = (V s).toArray := fun hr hs => V_ext (by simp [gl, hr, hs])
    have x3 : ∀ {r s : List Int}, r.length = 24 → s.length = 24 → (V (gl r s n)).toArray[48]? = some (.int .i64 n) := fun hr hs => by
      simp only [gl, V, List.map_append, List.getElem?_toArray]
      rw [List.getElem?_append_right (by simp; omega)]
      simp [hr, hs]
    have e1 := eq_perm hp hp' 9997 w
    have e2 := eq_perm hq hq' 9997 w
    have e3 : (Op.equalIn 9999 3 (.int .i64 n) (.int .i64 n)).run Tryz.prog w = .ok true w := by rw [run_equalIn_int w 9998 _ .i64 .i64 _ _ Tryz.underlying3]; simp
    have n1 : (("right" : String) ≠ "_") = True := by simp
    have n2 : (("up" : String) ≠ "_") = True := by simp
    have n3 : (("count" : String) ≠ "_") = True := by simp
    have e1' : (Op.equalIn 9999 60 (.agg (V p).toArray) (.agg (V p').toArray)).run Tryz.prog w = .ok (decide (p = p')) w := e1
    have e2' : (Op.equalIn 9999 60 (.agg (V q).toArray) (.agg (V q').toArray)).run Tryz.prog w = .ok (decide (q = q')) w := e2
    simp only [Op.eqFields, n1, n2, n3, if_true, a1, a2, a3, b1, b2, b3, c1, c2, c3, Sem.run_bind, part_perm, x1 hp hq, x1 hp' hq', Result.andThen_ok, e1']
    by_cases h1 : p = p'
    · simp only [decide_eq_true h1, Bool.not_true, Bool.false_eq_true, if_false, Sem.run_bind, part_perm, x2 hp hq, x2 hp' hq', Result.andThen_ok, e2']
      by_cases h2 : q = q'
      · simp only [decide_eq_true h2, Bool.not_true, Bool.false_eq_true, if_false, Sem.run_bind, part_int (x3 hp hq), part_int (x3 hp' hq'), Result.andThen_ok, e3, Sem.run_pure]
        rw [decide_eq_true (show p = p' ∧ q = q' from ⟨h1, h2⟩)]
      · simp only [decide_eq_false h2, Bool.not_false, if_true, Sem.run_pure]
        rw [decide_eq_false (fun h => h2 h.2)]
    · simp only [decide_eq_false h1, Bool.not_false, if_true, Sem.run_pure]
      rw [decide_eq_false (fun h => h1 h.1)]
theorem step_cmp_gl {ops : Array Oper} {o : Oper} {a : Act} {w : World} {K : Act → World → Prop} {Q : Exit → Act → World → Prop} {E : Prop} (hgd : o.guard = none) (x y : Operand) (rt : TypeId) (ho : o.op = .binOp .neq 62 x y rt)
    (xs ys : Array Value) (hx : a.eval x = .agg xs) (hy : a.eval y = .agg ys) (b : Bool) (he : (Op.equalIn 10000 62 (.agg xs) (.agg ys)).run Tryz.prog w = .ok b w)
    (h : K (a.put o.dst (.bool (!b))) w) : if Region.wanted o (yielded ops a.tmps) = true then Oper.wp Tryz.prog o a w K Q else E := by
  have hw : Region.wanted o (yielded ops a.tmps) = true := by simp [Region.wanted, hgd]
  rw [if_pos hw]
  unfold Oper.wp execOp
  simp only [ho, hx, hy, Sem.run_bind, run_eqGuard_agg w .neq _ x y xs ys (show Tryz.prog.eqGuardType Tryz.prog.depth 62 = false by kernel_rfl), Result.andThen_ok, run_neq_struct, he, Sem.run_pure]
  exact h
theorem wpList_eql_gl {ops : Array Oper} {rest : List Oper} {o : Oper} {a : Act} {w : World} {Q : Exit → Act → World → Prop} (hgd : o.guard = none) (x y : Operand) (rt : TypeId) (ho : o.op = .binOp .eql 62 x y rt)
    (xs ys : Array Value) (hx : a.eval x = .agg xs) (hy : a.eval y = .agg ys) (b : Bool) (he : (Op.equalIn 10000 62 (.agg xs) (.agg ys)).run Tryz.prog w = .ok b w)
    (h : wpList Tryz.prog ops Q rest (a.put o.dst (.bool b)) w) : wpList Tryz.prog ops Q (o :: rest) a w := by
  refine wpList_plain hgd fun K hK => ?_
  unfold Oper.wp execOp
  simp only [ho, hx, hy, Sem.run_bind, run_eqGuard_agg w .eql _ x y xs ys (show Tryz.prog.eqGuardType Tryz.prog.depth 62 = false by kernel_rfl), Result.andThen_ok, run_eql_struct, he, Sem.run_pure]
  exact hK _ _ h
/-! Order -/
theorem lessL_app : ∀ (a b t : List Int), a.length = b.length → lessL (a ++ t) (b ++ t) = lessL a b := by
  intro a
  induction a with
  | nil => intro b t h; cases b with
    | nil => simp [lessL_irr]
    | cons y b => simp at h
  | cons x a ih => intro b t h; cases b with
    | nil => simp at h
    | cons y b => simp only [List.cons_append, lessL]; rw [ih b t (by simpa using h)]
theorem ext_tail {xs ys : List Int} (h : xs.length = ys.length) : (ext xs).drop xs.length = (ext ys).drop ys.length := by
  refine list_eq (24 - xs.length) (by simp [ext_len]) (by simp [ext_len, h]) fun i hi => ?_
  have a : (ext xs).getD (xs.length + i) 0 = (ext ys).getD (ys.length + i) 0 := by
    rw [ext_at (by omega), ext_at (by omega), if_neg (by omega), if_neg (by omega), h]
  simpa [List.getD, List.getElem?_drop] using a
theorem ext_inj {xs ys : List Int} (h : xs.length = ys.length) (hl : xs.length ≤ 24) (e : ext xs = ext ys) : xs = ys := by
  have := ext_take xs hl
  rw [← this, e, h]
  exact ext_take ys (by omega)
theorem lessL_ext {xs ys : List Int} (h : xs.length = ys.length) (hl : xs.length ≤ 24) : lessL (ext xs) (ext ys) = lessL xs ys := by
  rw [ext_app xs hl, ext_app ys (by omega), ← ext_tail h]
  exact lessL_app _ _ _ h
theorem bef_ext {a b a' b' : List Int} (h1 : a.length = a'.length) (h2 : b.length = b'.length) (l1 : a.length ≤ 24) (l2 : b.length ≤ 24) : bef (ext a, ext b) (ext a', ext b') = bef (a, b) (a', b') := by
  unfold bef
  by_cases e : a = a'
  · subst e; simp only [if_true]; exact lessL_ext h2 l2
  · have e' : ext a ≠ ext a' := fun q => e (ext_inj h1 l1 q)
    simp only [if_neg e, if_neg e']; exact lessL_ext h1 l1
end Go.Proofs.YtpmojmhamgcfmaaGreat.gl
