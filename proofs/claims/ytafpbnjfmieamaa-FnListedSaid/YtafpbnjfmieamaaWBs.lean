/-
  slices.Compare at lists of any lengths; a list's place among ascending ones.
-/
import Derived.Test.YtafpbnjfmieamaaWAj
import Derived.Test.YtafpbnjfmieamaaY09
namespace Go.Proofs.Ytafpbnjfmieamaa.lst
open Go.ChangeShapes Go.WideShapes Go.ChangeAt Go.RowKit
open Go.Proofs.Ytafpbnjfmieamaa.mem Go.Proofs.Ytafpbnjfmieamaa.ints Go.Proofs.Ytafpbnjfmieamaa.arr Go.Proofs.Ytafpbnjfmieamaa.pm Go.Proofs.Ytafpbnjfmieamaa.sf Go.Proofs.Ytafpbnjfmieamaa.gl
set_option linter.unusedVariables false
set_option maxRecDepth 100000

def cmpX : List Int → List Int → Int
  | [], [] => 0
  | [], _ :: _ => -1
  | _ :: _, [] => 1
  | a :: s, b :: t => if a = b then cmpX s t else if a < b then -1 else 1
theorem cmpX_drop {xs ys : List Int} : ∀ {k : Nat}, k ≤ xs.length → (∀ j, j < k → xs[j]? = ys[j]?) → cmpX xs ys = cmpX (xs.drop k) (ys.drop k)
  | 0, _, _ => by simp
  | k + 1, hk, h => by
    rw [cmpX_drop (k := k) (by omega) (fun j hj => h j (by omega))]
    have e := h k (by omega)
    have hx := List.getElem?_eq_getElem (show k < xs.length by omega)
    rw [hx] at e
    obtain ⟨hy, ey⟩ := List.getElem?_eq_some_iff.1 e.symm
    rw [List.drop_eq_getElem_cons (show k < xs.length by omega), List.drop_eq_getElem_cons hy, ey, cmpX, if_pos rfl]
theorem cmpX_end {xs ys : List Int} {k : Nat} (hk : k < xs.length) (hy : ys.length ≤ k) (h : ∀ j, j < k → xs[j]? = ys[j]?) : cmpX xs ys = 1 := by
  rw [cmpX_drop (by omega) h, List.drop_eq_getElem_cons hk, List.drop_of_length_le hy]
  rfl
theorem cmpX_at {xs ys : List Int} {k : Nat} {s t : Int} (hx : xs[k]? = some s) (hy : ys[k]? = some t) (h : ∀ j, j < k → xs[j]? = ys[j]?) (hne : s ≠ t) : cmpX xs ys = if s < t then -1 else 1 := by
  obtain ⟨h1, e1⟩ := List.getElem?_eq_some_iff.1 hx
  obtain ⟨h2, e2⟩ := List.getElem?_eq_some_iff.1 hy
  rw [cmpX_drop (by omega) h, List.drop_eq_getElem_cons h1, List.drop_eq_getElem_cons h2, e1, e2, cmpX, if_neg hne]
theorem cmpX_all {xs ys : List Int} (h : ∀ j, j < xs.length → xs[j]? = ys[j]?) : cmpX xs ys = if xs.length < ys.length then -1 else 0 := by
  rw [cmpX_drop (Nat.le_refl _) h, List.drop_of_length_le (Nat.le_refl _)]
  by_cases q : xs.length < ys.length
  · rw [List.drop_eq_getElem_cons q, if_pos q]; rfl
  · rw [List.drop_of_length_le (by omega), if_neg q]; rfl
theorem cmpX_less : ∀ xs ys : List Int, (decide (cmpX xs ys < 0) = lessX xs ys) ∧ (cmpX xs ys = 0 ↔ xs = ys)
  | [], [] => by simp [cmpX, lessX]
  | [], _ :: _ => by simp [cmpX, lessX]
  | _ :: _, [] => by simp [cmpX, lessX]
  | a :: s, b :: t => by
    obtain ⟨h1, h2⟩ := cmpX_less s t
    rw [cmpX, lessX]
    by_cases e : a = b
    · subst e
      simp [h1, h2]
    · rw [if_neg e, if_neg e]
      by_cases q : a < b
      · simp [q, e]
      · simp [q, e]
set_option maxHeartbeats 1000000 in
theorem cmpX_any (A : Option Addr) (n c : Nat) (B : Option Addr) (m d : Nat) (xs ys : List Int) (h1 h2 : Nat) (w : World)
    (hx : Rd w h1 A n (V xs)) (hy : Rd w h2 B m (V ys)) (hn : n ≤ 1048576) (hm : m ≤ 1048576) :
    Calls Try.prog 25 #[.slice A n c, .slice B m d] w fun e w' => e = .returned (.int .i64 (cmpX xs ys)) ∧ w' = w := by
  have lx : xs.length = n := by simpa [V] using hx.1
  have ly : ys.length = m := by simpa [V] using hy.1
  have LX := Lib.hid lx; have LY := Lib.hid ly; clear lx ly
  have HX := Lib.hid hx; have HY := Lib.hid hy; clear hx hy
  go_enter Try.func25, Try.ntmps25
  go_wp2
  go_loopw [11] (fun i wr => ∃ k : Nat, k ≤ n ∧ i = .int .i64 k ∧ wr = w ∧ ∀ j, j < k → xs[j]? = ys[j]?) (fun i _ => n - (intOf i).toNat)
  case atStart => refine ⟨0, Nat.zero_le _, ?_, ?_, fun j hj => by omega⟩ <;> first | rfl | trivial
  case round =>
    obtain ⟨k, hk, rfl, rfl, hsame⟩ := hrel
    have HS := Lib.hid hsame; clear hsame
    by_cases hlt : k < n
    · obtain ⟨g, off, u, rfl, _, hxu, hcx⟩ := HX.out.at_ hlt
      obtain ⟨s, hxs, rfl⟩ := V_at hxu
      have HXS := Lib.hid hxs; clear hxs hxu
      by_cases hkm : k < m
      · obtain ⟨g', off', u', rfl, _, hyu, hcy⟩ := HY.out.at_ hkm
        obtain ⟨t, hyt, rfl⟩ := V_at hyu
        have HYT := Lib.hid hyt; clear hyt hyu
        by_cases hst : s = t
        · subst hst
          go_wp2
          go_roundw
          case rel => exact ⟨k + 1, by omega, by go_num, by first | rfl | trivial, fun j hj => by
            rcases Nat.lt_or_ge j k with q | q
            · exact HS.out j q
            · obtain rfl : j = k := by omega
              rw [HXS.out, HYT.out]⟩
          case measure => simp [intOf]; omega
        · by_cases hl : s < t
          · have HC : Hid (cmpX xs ys = -1) := Lib.hid (by rw [cmpX_at HXS.out HYT.out HS.out hst, if_pos hl])
            clear hst
            go_wp2
            go_ret
            exact ⟨ret_int HC.out.symm, rfl⟩
          · have HC : Hid (cmpX xs ys = 1) := Lib.hid (by rw [cmpX_at HXS.out HYT.out HS.out hst, if_neg hl])
            have hg : decide (t < s) = true := by simp; omega
            have hl' : decide (s < t) = false := by simp; omega
            clear hst hl
            go_wp2
            go_ret
            exact ⟨ret_int HC.out.symm, rfl⟩
      · have HC : Hid (cmpX xs ys = 1) := Lib.hid (cmpX_end (by rw [LX.out]; exact hlt) (by rw [LY.out]; omega) HS.out)
        go_wp2
        go_ret
        exact ⟨ret_int HC.out.symm, rfl⟩
    · obtain rfl : k = n := by omega
      have HC : Hid (cmpX xs ys = if k < m then -1 else 0) := Lib.hid (by rw [cmpX_all (by rw [LX.out]; exact HS.out), LX.out, LY.out])
      by_cases hkm : k < m
      · rw [if_pos hkm] at HC
        go_wp2
        go_ret
        exact ⟨ret_int HC.out.symm, rfl⟩
      · rw [if_neg hkm] at HC
        go_wp2
        go_ret
        exact ⟨ret_int HC.out.symm, rfl⟩
theorem lessX_irr : ∀ a : List Int, lessX a a = false
  | [] => rfl
  | a :: s => by rw [lessX, if_pos rfl]; exact lessX_irr s
theorem lessX_trans : ∀ {a b c : List Int}, lessX a b = true → lessX b c = true → lessX a c = true
  | [], [], c, h, _ => by simp [lessX] at h
  | [], _ :: _, [], _, h => by simp [lessX] at h
  | [], _ :: _, _ :: _, _, _ => rfl
  | _ :: _, [], c, h, _ => by simp [lessX] at h
  | _ :: _, _ :: _, [], _, h => by simp [lessX] at h
  | x :: a, y :: b, z :: c, h1, h2 => by
    rw [lessX] at h1 h2 ⊢
    by_cases e1 : x = y
    · subst e1
      rw [if_pos rfl] at h1
      by_cases e2 : x = z
      · subst e2
        rw [if_pos rfl] at h2 ⊢
        exact lessX_trans h1 h2
      · rw [if_neg e2] at h2 ⊢
        exact h2
    · rw [if_neg e1] at h1
      have l1 : x < y := by simpa using h1
      by_cases e2 : y = z
      · subst e2
        rw [if_neg e1]
        exact h1
      · rw [if_neg e2] at h2
        have l2 : y < z := by simpa using h2
        rw [if_neg (by omega)]
        simp; omega
theorem lessX_total : ∀ {a b : List Int}, a ≠ b → lessX a b = true ∨ lessX b a = true
  | [], [], h => absurd rfl h
  | [], _ :: _, _ => .inl rfl
  | _ :: _, [], _ => .inr rfl
  | x :: a, y :: b, h => by
    rw [lessX, lessX]
    by_cases e : x = y
    · subst e
      rw [if_pos rfl, if_pos rfl]
      exact lessX_total (fun q => h (by rw [q]))
    · rw [if_neg e, if_neg (fun q => e q.symm)]
      rcases Int.lt_or_gt_of_ne e with q | q
      · exact .inl (by simpa using q)
      · exact .inr (by simpa using q)
theorem lessX_asym {a b : List Int} (h : lessX a b = true) : lessX b a = false := by
  cases q : lessX b a
  · rfl
  · have := lessX_trans h q; rw [lessX_irr] at this; cases this
/-- The place of t among the lists L. -/
structure Pt (L : List (List Int)) (t : List Int) (i : Nat) : Prop where
  le : i ≤ L.length
  lo : ∀ (k : Nat) x, k < i → L[k]? = some x → lessX x t = true
  hi : ∀ (k : Nat) x, i ≤ k → L[k]? = some x → lessX x t = false
theorem Pt.ins : ∀ {L : List (List Int)} {t : List Int} {i : Nat}, Pt L t i → insT L t = if L[i]? = some t then L else L.take i ++ t :: L.drop i
  | [], t, i, h => by
    obtain rfl : i = 0 := by have := h.le; simpa using this
    simp [insT]
  | x :: l, t, 0, h => by
    have h0 := h.hi 0 x (Nat.le_refl _) rfl
    rw [insT, h0]
    by_cases e : x = t
    · subst e; simp
    · simp [e]
  | x :: l, t, i + 1, h => by
    have h0 := h.lo 0 x (by omega) rfl
    have ih := Pt.ins (L := l) (t := t) (i := i) ⟨by have := h.le; simpa using this, fun k y hk hy => h.lo (k + 1) y (by omega) (by simpa using hy), fun k y hk hy => h.hi (k + 1) y (by omega) (by simpa using hy)⟩
    rw [insT, h0, if_pos rfl, ih]
    simp only [List.getElem?_cons_succ, List.take_succ_cons, List.drop_succ_cons, List.cons_append]
    split <;> rfl
structure St (L : List (List Int)) (t : List Int) (i j : Nat) : Prop where
  le : i ≤ j
  top : j ≤ L.length
  lo : ∀ (k : Nat) x, k < i → L[k]? = some x → lessX x t = true
  hi : ∀ (k : Nat) x, j ≤ k → L[k]? = some x → lessX x t = false
theorem St.start (L : List (List Int)) (t : List Int) : St L t 0 L.length := ⟨Nat.zero_le _, Nat.le_refl _, fun k x h => by omega, fun k x h e => by rw [List.getElem?_eq_none h] at e; cases e⟩
theorem ascX_at {L : List (List Int)} (h : L.Pairwise fun a b => lessX a b = true) {i j : Nat} {x y : List Int} (hij : i < j) (hx : L[i]? = some x) (hy : L[j]? = some y) : lessX x y = true := by
  obtain ⟨hi, rfl⟩ := List.getElem?_eq_some_iff.1 hx
  obtain ⟨hj, rfl⟩ := List.getElem?_eq_some_iff.1 hy
  exact List.pairwise_iff_getElem.1 h i j hi hj hij
theorem St.right {L : List (List Int)} {t x : List Int} {i j h : Nat} (s : St L t i j) (a : L.Pairwise fun a b => lessX a b = true) (h2 : h < j) (hx : L[h]? = some x) (hb : lessX x t = true) : St L t (h + 1) j :=
  ⟨h2, s.top, fun k y hk hy => by
    by_cases e : k = h
    · subst e; rw [hx] at hy; cases hy; exact hb
    · exact lessX_trans (ascX_at a (by omega) hy hx) hb, s.hi⟩
theorem St.left {L : List (List Int)} {t x : List Int} {i j h : Nat} (s : St L t i j) (a : L.Pairwise fun a b => lessX a b = true) (h1 : i ≤ h) (h2 : h < j) (hx : L[h]? = some x) (hb : lessX x t = false) : St L t i h :=
  ⟨h1, by have := s.top; omega, s.lo, fun k y hk hy => by
    by_cases e : k = h
    · subst e; rw [hx] at hy; cases hy; exact hb
    · cases q : lessX y t
      · rfl
      · have := lessX_trans (ascX_at a (show h < k by omega) hx hy) q
        rw [hb] at this; cases this⟩
theorem insT_mem : ∀ {L : List (List Int)} {t y : List Int}, y ∈ insT L t → y ∈ L ∨ y = t
  | [], t, y, h => .inr (by simpa [insT] using h)
  | x :: l, t, y, h => by
    rw [insT] at h
    split at h
    · rcases List.mem_cons.1 h with q | q
      · exact .inl (q ▸ List.mem_cons_self ..)
      · rcases insT_mem q with q | q
        · exact .inl (List.mem_cons_of_mem _ q)
        · exact .inr q
    · split at h
      · exact .inl h
      · rcases List.mem_cons.1 h with q | q
        · exact .inr q
        · exact .inl q
theorem insT_asc : ∀ {L : List (List Int)} {t : List Int}, (L.Pairwise fun a b => lessX a b = true) → (insT L t).Pairwise fun a b => lessX a b = true
  | [], t, _ => by simp [insT]
  | x :: l, t, hp => by
    obtain ⟨h1, h2⟩ := List.pairwise_cons.1 hp
    rw [insT]
    by_cases q : lessX x t = true
    · rw [if_pos q]
      refine List.pairwise_cons.2 ⟨fun y hy => ?_, insT_asc h2⟩
      rcases insT_mem hy with e | rfl
      · exact h1 y e
      · exact q
    · rw [if_neg q]
      by_cases e : x = t
      · rw [if_pos e]; exact hp
      · rw [if_neg e]
        have hb : lessX t x = true := by
          rcases lessX_total (fun q : t = x => e q.symm) with z | z
          · exact z
          · exact absurd z q
        refine List.pairwise_cons.2 ⟨fun y hy => ?_, hp⟩
        rcases List.mem_cons.1 hy with rfl | q
        · exact hb
        · exact lessX_trans hb (h1 y q)
theorem insT_len : ∀ (L : List (List Int)) (t : List Int), (insT L t).length ≤ L.length + 1
  | [], t => by simp [insT]
  | x :: l, t => by
    have := insT_len l t
    rw [insT]
    split
    · simp; omega
    · split <;> simp
end Go.Proofs.Ytafpbnjfmieamaa.lst
