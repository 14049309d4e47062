import Derived.Test.YtpmojmhamgcfmaaGreatY13
import Derived.Test.YtpmojmhamgcfmaaGreatY11
import Derived.Test.YtpmojmhamgcfmaaGreatY09
import Derived.Laws.CopyRow
import Derived.Lib.AppendZerosOnto
import Derived.Lib.Overlaps
import Derived.Laws.NewBlocks
import Derived.Deep.DeepAppendWide
import Derived.Deep.RegionLaw
/-
  slices.Compare at lists of any lengths; a list's place among ascending ones.
-/
namespace Go.Proofs.YtpmojmhamgcfmaaGreat.lst
open Go.ChangeShapes Go.WideShapes Go.ChangeAt Go.RowKit
open Go.Proofs.YtpmojmhamgcfmaaGreat.mem Go.Proofs.YtpmojmhamgcfmaaGreat.ints Go.Proofs.YtpmojmhamgcfmaaGreat.arr Go.Proofs.YtpmojmhamgcfmaaGreat.pm Go.Proofs.YtpmojmhamgcfmaaGreat.sf Go.Proofs.YtpmojmhamgcfmaaGreat.gl
set_option linter.unusedVariables false
set_option maxRecDepth 100000

def cmpX : List Int → List Int → Int
  | [], [] => 0
  | [], _ :: _ => -1
  | _ :: _, [] => 1
  | a :: s, b :: t => if a = b then cmpX s t else if a < b then -1 else 1
theorem cmpX_drop {xs ys : List Int} : ∀ {k : Nat}, k ≤ xs.length → (∀ j, j < k → xs[j]? = ys[j]?) → cmpX xs ys = cmpX (xs.drop k) (ys.drop k)
  | 0, _, _ => by simp
  | k + 1, hk, h => by
    rw [cmpX_drop (k := k) (by omega) (fun j hj => h j (by omega))]
    have e := h k (by omega)
    have hx := List.getElem?_eq_getElem (show k < xs.length by omega)
    rw [hx] at e
    obtain ⟨hy, ey⟩ := List.getElem?_eq_some_iff.1 e.symm
    rw [List.drop_eq_getElem_cons (show k < xs.length by omega), List.drop_eq_getElem_cons hy, ey, cmpX, if_pos rfl]
theorem cmpX_end {xs ys : List Int} {k : Nat} (hk : k < xs.length) (hy : ys.length ≤ k) (h : ∀ j, j < k → xs[j]? = ys[j]?) : cmpX xs ys = 1 := by
  rw [cmpX_drop (by omega) h, List.drop_eq_getElem_cons hk, List.drop_of_length_le hy]
  rfl
theorem cmpX_at {xs ys : List Int} {k : Nat} {s t : Int} (hx : xs[k]? = some s) (hy : ys[k]? = some t) (h : ∀ j, j < k → xs[j]? = ys[j]?) (hne : s ≠ t) : cmpX xs ys = if s < t then -1 else 1 := by
  obtain ⟨h1, e1⟩ := List.getElem?_eq_some_iff.1 hx
  obtain ⟨h2, e2⟩ := List.getElem?_eq_some_iff.1 hy
  rw [cmpX_drop (by omega) h, List.drop_eq_getElem_cons h1, List.drop_eq_getElem_cons h2, e1, e2, cmpX, if_neg hne]
theorem cmpX_all {xs ys : List Int} (h : ∀ j, j < xs.length → xs[j]? = ys[j]?) : cmpX xs ys = if xs.length < ys.length then -1 else 0 := by
  rw [cmpX_drop (Nat.le_refl _) h, List.drop_of_length_le (Nat.le_refl _)]
  by_cases q : xs.length < ys.length
  · rw [List.drop_eq_getElem_cons q, if_pos q]; rfl
  · rw [List.drop_of_length_le (by omega), if_neg q]; rfl
theorem cmpX_less : ∀ xs ys : List Int, (decide (cmpX xs ys < 0) = lessX xs ys) ∧ (cmpX xs ys = 0 ↔ xs = ys)
  | [], [] => by simp [cmpX, lessX]
  | [], _ :: _ => by simp [cmpX, lessX]
  | _ :: _, [] => by simp [cmpX, lessX]
  | a :: s, b :: t => by
    obtain ⟨h1, h2⟩ := cmpX_less s t
    rw [cmpX, lessX]
    by_cases e : a = b
    · subst e
      simp [h1, h2]
    · rw [if_neg e, if_neg e]
      by_cases q : a < b
      · simp [q, e]
      · simp [q, e]
set_option maxHeartbeats 1000000 in
theorem cmpX_any (A : Option Addr) (n c : Nat) (B : Option Addr) (m d : Nat) (xs ys : List Int) (h1 h2 : Nat) (w : World)
    (hx : Rd w h1 A n (V xs)) (hy : Rd w h2 B m (V ys)) (hn : n ≤ 1048576) (hm : m ≤ 1048576) :
    Calls Tryz.prog 13 #[.slice A n c, .slice B m d] w fun e w' => e = .returned (.int .i64 (cmpX xs ys)) ∧ w' = w := by
  have lx : xs.length = n := by simpa [V] using hx.1
  have ly : ys.length = m := by simpa [V] using hy.1
  have LX := Lib.hid lx; have LY := Lib.hid ly; clear lx ly
  have HX := Lib.hid hx; have HY := Lib.hid hy; clear hx hy
  go_enter Tryz.func13, Tryz.ntmps13
  go_wp2
  go_loopw [11] (fun i wr => ∃ k : Nat, k ≤ n ∧ i = .int .i64 k ∧ wr = w ∧ ∀ j, j < k → xs[j]? = ys[j]?) (fun i _ => n - (intOf i).toNat)
  case atStart => refine ⟨0, Nat.zero_le _, ?_, ?_, fun j hj => by omega⟩ <;> first | rfl | trivial
  case round =>
    obtain ⟨k, hk, rfl, rfl, hsame⟩ := hrel
    have HS := Lib.hid hsame; clear hsame
    by_cases hlt : k < n
    · obtain ⟨g, off, u, rfl, _, hxu, hcx⟩ := HX.out.at_ hlt
      obtain ⟨s, hxs, rfl⟩ := V_at hxu
      have HXS := Lib.hid hxs; clear hxs hxu
      by_cases hkm : k < m
      · obtain ⟨g', off', u', rfl, _, hyu, hcy⟩ := HY.out.at_ hkm
        obtain ⟨t, hyt, rfl⟩ := V_at hyu
        have HYT := Lib.hid hyt; clear hyt hyu
        by_cases hst : s = t
        · subst hst
          go_wp2
          go_roundw
          case rel => exact ⟨k + 1, by omega, by go_num, by first | rfl | trivial, fun j hj => by
            rcases Nat.lt_or_ge j k with q | q
            · exact HS.out j q
            · obtain rfl : j = k := by omega
              rw [HXS.out, HYT.out]⟩
          case measure => simp [intOf]; omega
        · by_cases hl : s < t
          · have HC : Hid (cmpX xs ys = -1) := Lib.hid (by rw [cmpX_at HXS.out HYT.out HS.out hst, if_pos hl])
            clear hst
            go_wp2
            go_ret
            exact ⟨ret_int HC.out.symm, rfl⟩
          · have HC : Hid (cmpX xs ys = 1) := Lib.hid (by rw [cmpX_at HXS.out HYT.out HS.out hst, if_neg hl])
            have hg : decide (t < s) = true := by simp; omega
            have hl' : decide (s < t) = false := by simp; omega
            clear hst hl
            go_wp2
            go_ret
            exact ⟨ret_int HC.out.symm, rfl⟩
      · have HC : Hid (cmpX xs ys = 1) := Lib.hid (cmpX_end (by rw [LX.out]; exact hlt) (by rw [LY.out]; omega) HS.out)
        go_wp2
        go_ret
        exact ⟨ret_int HC.out.symm, rfl⟩
    · obtain rfl : k = n := by omega
      have HC : Hid (cmpX xs ys = if k < m then -1 else 0) := Lib.hid (by rw [cmpX_all (by rw [LX.out]; exact HS.out), LX.out, LY.out])
      by_cases hkm : k < m
      · rw [if_pos hkm] at HC
        go_wp2
        go_ret
        exact ⟨ret_int HC.out.symm, rfl⟩
      · rw [if_neg hkm] at HC
        go_wp2
        go_ret
        exact ⟨ret_int HC.out.symm, rfl⟩
theorem lessX_irr : ∀ a : List Int, lessX a a = false
  | [] => rfl
  | a :: s => by rw [lessX, if_pos rfl]; exact lessX_irr s
theorem lessX_trans : ∀ {a b c : List Int}, lessX a b = true → lessX b c = true → lessX a c = true
  | [], [], c, h, _ => by simp [lessX] at h
  | [], _ :: _, [], _, h => by simp [lessX] at h
  | [], _ :: _, _ :: _, _, _ => rfl
  | _ :: _, [], c, h, _ => by simp [lessX] at h
  | _ :: _, _ :: _, [], _, h => by simp [lessX] at h
  | x :: a, y :: b, z :: c, h1, h2 => by
    rw [lessX] at h1 h2 ⊢
    by_cases e1 : x = y
    · subst e1
      rw [if_pos rfl] at h1
      by_cases e2 : x = z
      · subst e2
        rw [if_pos rfl] at h2 ⊢
        exact lessX_trans h1 h2
      · rw [if_neg e2] at h2 ⊢
        exact h2
    · rw [if_neg e1] at h1
      have l1 : x < y := by simpa using h1
      by_cases e2 : y = z
      · subst e2
        rw [if_neg e1]
        exact h1
      · rw [if_neg e2] at h2
        have l2 : y < z := by simpa using h2
        rw [if_neg (by omega)]
        simp; omega
theorem lessX_total : ∀ {a b : List Int}, a ≠ b → lessX a b = true ∨ lessX b a = true
  | [], [], h => absurd rfl h
  | [], _ :: _, _ => .inl rfl
  | _ :: _, [], _ => .inr rfl
  | x :: a, y :: b, h => by
    rw [lessX, lessX]
    by_cases e : x = y
    · subst e
      rw [if_pos rfl, if_pos rfl]
      exact lessX_total (fun q => h (by rw [q]))
    · rw [if_neg e, if_neg (fun q => e q.symm)]
      rcases Int.lt_or_gt_of_ne e with q | q
      · exact .inl (by simpa using q)
      · exact .inr (by simpa using q)
theorem lessX_asym {a b : List Int} (h : lessX a b = true) : lessX b a = false := by
  cases q : lessX b a
  · rfl
  · have := lessX_trans h q; rw [lessX_irr] at this; cases this
/-- The place of t among the lists L. -/
structure Pt (L : List (List Int)) (t : List Int) (i : Nat) : Prop where
  le : i ≤ L.length
  lo : ∀ (k : Nat) x, k < i → L[k]? = some x → lessX x t = true
  hi : ∀ (k : Nat) x, i ≤ k → L[k]? = some x → lessX x t = false
theorem Pt.ins : ∀ {L : List (List Int)} {t : List Int} {i : Nat}, Pt L t i → insT L t = if L[i]? = some t then L else L.take i ++ t :: L.drop i
  | [], t, i, h => by
    obtain rfl : i = 0 := by have := h.le; simpa using this
    simp [insT]
  | x :: l, t, 0, h => by
    have h0 := h.hi 0 x (Nat.le_refl _) rfl
    rw [insT, h0]
    by_cases e : x = t
    · subst e; simp
    · simp [e]
  | x :: l, t, i + 1, h => by
    have h0 := h.lo 0 x (by omega) rfl
    have ih := Pt.ins (L := l) (t := t) (i := i) ⟨by have := h.le; simpa using this, fun k y hk hy => h.lo (k + 1) y (by omega) (by simpa using hy), fun k y hk hy => h.hi (k + 1) y (by omega) (by simpa using hy)⟩
    rw [insT, h0, if_pos rfl, ih]
    simp only [List.getElem?_cons_succ, List.take_succ_cons, List.drop_succ_cons, List.cons_append]
    split <;> rfl
structure St (L : List (List Int)) (t : List Int) (i j : Nat) : Prop where
  le : i ≤ j
  top : j ≤ L.length
  lo : ∀ (k : Nat) x, k < i → L[k]? = some x → lessX x t = true
  hi : ∀ (k : Nat) x, j ≤ k → L[k]? = some x → lessX x t = false
theorem St.start (L : List (List Int)) (t : List Int) : St L t 0 L.length := ⟨Nat.zero_le _, Nat.le_refl _, fun k x h => by omega, fun k x h e => by rw [List.getElem?_eq_none h] at e; cases e⟩
theorem ascX_at {L : List (List Int)} (h : L.Pairwise fun a b => lessX a b = true) {i j : Nat} {x y : List Int} (hij : i < j) (hx : L[i]? = some x) (hy : L[j]? = some y) : lessX x y = true := by
  obtain ⟨hi, rfl⟩ := List.getElem?_eq_some_iff.1 hx
  obtain ⟨hj, rfl⟩ := List.getElem?_eq_some_iff.1 hy
  exact List.pairwise_iff_getElem.1 h i j hi hj hij
theorem St.right {L : List (List Int)} {t x : List Int} {i j h : Nat} (s : St L t i j) (a : L.Pairwise fun a b => lessX a b = true) (h2 : h < j) (hx : L[h]? = some x) (hb : lessX x t = true) : St L t (h + 1) j :=
  ⟨h2, s.top, fun k y hk hy => by
    by_cases e : k = h
    · subst e; rw [hx] at hy; cases hy; exact hb
    · exact lessX_trans (ascX_at a (by omega) hy hx) hb, s.hi⟩
theorem St.left {L : List (List Int)} {t x : List Int} {i j h : Nat} (s : St L t i j) (a : L.Pairwise fun a b => lessX a b = true) (h1 : i ≤ h) (h2 : h < j) (hx : L[h]? = some x) (hb : lessX x t = false) : St L t i h :=
  ⟨h1, by have := s.top; omega, s.lo, fun k y hk hy => by
    by_cases e : k = h
    · subst e; rw [hx] at hy; cases hy; exact hb
    · cases q : lessX y t
      · rfl
      · have := lessX_trans (ascX_at a (show h < k by omega) hx hy) q
        rw [hb] at this; cases this⟩
theorem insT_mem : ∀ {L : List (List Int)} {t y : List Int}, y ∈ insT L t → y ∈ L ∨ y = t
  | [], t, y, h => .inr (by simpa [insT] using h)
  | x :: l, t, y, h => by
    rw [insT] at h
    split at h
    · rcases List.mem_cons.1 h with q | q
      · exact .inl (q ▸ List.mem_cons_self ..)
      · rcases insT_mem q with q | q
        · exact .inl (List.mem_cons_of_mem _ q)
        · exact .inr q
    · split at h
      · exact .inl h
      · rcases List.mem_cons.1 h with q | q
        · exact .inr q
        · exact .inl q
theorem insT_asc : ∀ {L : List (List Int)} {t : List Int}, (L.Pairwise fun a b => lessX a b = true) → (insT L t).Pairwise fun a b => lessX a b = true
  | [], t, _ => by simp [insT]
  | x :: l, t, hp => by
    obtain ⟨h1, h2⟩ := List.pairwise_cons.1 hp
    rw [insT]
    by_cases q : lessX x t = true
    · rw [if_pos q]
      refine List.pairwise_cons.2 ⟨fun y hy => ?_, insT_asc h2⟩
      rcases insT_mem hy with e | rfl
      · exact h1 y e
      · exact q
    · rw [if_neg q]
      by_cases e : x = t
      · rw [if_pos e]; exact hp
      · rw [if_neg e]
        have hb : lessX t x = true := by
          rcases lessX_total (fun q : t = x => e q.symm) with z | z
          · exact z
          · exact absurd z q
        refine List.pairwise_cons.2 ⟨fun y hy => ?_, hp⟩
        rcases List.mem_cons.1 hy with rfl | q
        · exact hb
        · exact lessX_trans hb (h1 y q)
theorem insT_len : ∀ (L : List (List Int)) (t : List Int), (insT L t).length ≤ L.length + 1
  | [], t => by simp [insT]
  | x :: l, t => by
    have := insT_len l t
    rw [insT]
    split
    · simp; omega
    · split <;> simp
end Go.Proofs.YtpmojmhamgcfmaaGreat.lst

/-
  A part of a block, read.
-/
namespace Go.Proofs.YtpmojmhamgcfmaaGreat.lp
open Go.ChangeShapes Go.WideShapes Go.ChangeAt Go.RowKit
open Go.Proofs.YtpmojmhamgcfmaaGreat.mem Go.Proofs.YtpmojmhamgcfmaaGreat.ints Go.Proofs.YtpmojmhamgcfmaaGreat.arr Go.Proofs.YtpmojmhamgcfmaaGreat.pm Go.Proofs.YtpmojmhamgcfmaaGreat.sf Go.Proofs.YtpmojmhamgcfmaaGreat.gl
set_option linter.unusedVariables false
set_option maxRecDepth 100000

section
variable {P : Program}
theorem run_loadVar_part (w : World) (g off : Nat) (ty : TypeId) (cs : List Value) (d : TypeDesc) (hc : ∀ (j : Nat) v, cs[j]? = some v → w.cell? ⟨g, off + j, none⟩ = some v)
    (hu : P.underlying ty = some d) (hd : (match d with | .struct _ | .array _ _ => true | _ => false) = true) (hi : (P.info? ty).map (·.size) = some cs.length) :
    (loadVar ty ⟨g, off, none⟩).run P w = .ok (.agg cs.toArray) w := by
  have hl : (loadCells ⟨g, off, none⟩ cs.length).run P w = .ok cs.toArray w :=
    run_loadCells_list (P := P) w ⟨g, off, none⟩ cs (fun j v hv => by
      have hadd : (⟨g, off, none⟩ : Addr).add j = ⟨g, off + j, none⟩ := by unfold Addr.add; split <;> simp_all
      rw [hadd]
      exact hc j v hv)
  cases hq : P.info? ty with
  | none => simp [hq] at hi
  | some i =>
    have hs : i.size = cs.length := by simpa [hq] using hi
    have hagg : (isAgg ty).run P w = .ok true w := by
      unfold isAgg
      rw [Sem.run_bind, run_underlying hu w]
      cases d <;> simp_all
    simp [loadVar, Sem.run_bind, hagg, sizeOf, typeInfo, hq, hs, hl]
theorem wpList_load_part {ops : Array Oper} {rest : List Oper} {o : Oper} {a : Act} {w : World} {Q : Exit → Act → World → Prop} (hgd : o.guard = none) (ty : TypeId) (x : Operand) (ho : o.op = .load ty x)
    (g off : Nat) (hx : a.eval x = .pointer (some ⟨g, off, none⟩)) (cs : List Value) (d : TypeDesc) (hc : ∀ (j : Nat) v, cs[j]? = some v → w.cell? ⟨g, off + j, none⟩ = some v)
    (hu : P.underlying ty = some d) (hd : (match d with | .struct _ | .array _ _ => true | _ => false) = true) (hi : (P.info? ty).map (·.size) = some cs.length)
    (h : wpList P ops Q rest (a.put o.dst (.agg cs.toArray)) w) : wpList P ops Q (o :: rest) a w := by
  refine wpList_plain hgd fun _ hK => ?_
  unfold Oper.wp execOp
  simp only [ho, hx, Instr.loadAt, Instr.sureAddr, Sem.run_bind, Sem.run_pure, Result.andThen_ok, run_loadVar_part w g off ty cs d hc hu hd hi]
  exact hK _ _ h
end
end Go.Proofs.YtpmojmhamgcfmaaGreat.lp

/-
  Rows of wide elements: copy, clear, the zero cells of append.
-/
namespace Go.Proofs.YtpmojmhamgcfmaaGreat.wd
open Go.ChangeShapes Go.WideShapes Go.ChangeAt Go.RowKit
open Go.Proofs.YtpmojmhamgcfmaaGreat.mem
set_option linter.unusedVariables false
set_option maxRecDepth 100000

section
variable {P : Program}
theorem run_copy_w (w : World) (dT sT ty elem : TypeId) (sz g o dLen dCap : Nat) (a : Addr) (sLen sCap k : Nat) (cur : Array Value) (t : TypeId) (cs : List Value)
    (hu : P.underlying dT = some (.slice elem)) (hs : (P.info? elem).map (·.size) = some sz)
    (hg : w.heap[g]? = some (.cells cur t (0, 0))) (hk : Nat.min sLen dLen = k) (hn : cs.length = k * sz)
    (hsrc : ∀ (j : Nat) v, cs[j]? = some v → w.cell? (a.add j) = some v) (hfit : o + cs.length ≤ cur.size) (h1 : ∀ v ∈ cs, v.oneCell' = true) :
    (Builtin.copy_ #[dT, sT] ty #[.slice (some ⟨g, o, none⟩) dLen dCap, .slice (some a) sLen sCap]).run P w =
      .ok (goInt k) (w.setRow g (cur.toList.take o ++ cs ++ cur.toList.drop (o + cs.length)).toArray) := by
  have hl := run_loadCells_list (P := P) w a cs hsrc
  have hst := run_storeCells_at P g o t cs 0 cur w hg (by simpa using hfit) h1
  cases hq : P.info? elem with
  | none => simp [hq] at hs
  | some i =>
    have hi : i.size = sz := by simpa [hq] using hs

    simp [Builtin.copy_, run_underlying hu, Builtin.lenOf, Builtin.firstCells, sizeOf, typeInfo, hq, hi, hk, ← hn, hl, hst]
theorem wpList_copy_at (w : World) {ops : Array Oper} {rest : List Oper} {o : Oper} {a : Act} {Q : Exit → Act → World → Prop} (hgd : o.guard = none) (d s : Operand) (t t' : TypeId)
    (ho : o.op = .call { callee := .builtin .copy, args := #[d, s], argTypes := #[t, t'] }) (v u : Value) (hd : a.eval d = v) (hs : a.eval s = u) {v' : Value} {w' : World}
    (hr : (Builtin.copy_ #[t, t'] o.type #[v, u]).run P w = .ok v' w') (h : wpList P ops Q rest (a.put o.dst v') w') : wpList P ops Q (o :: rest) a w := by
  refine wpList_plain hgd fun _ hK => ?_
  unfold Oper.wp execOp
  simp only [ho, resolve, invoke, builtin, Sem.run_bind, Sem.run_pure, Result.andThen_ok, List.map_toArray, List.map_cons, List.map_nil, hd, hs, hr]
  exact hK _ _ h
theorem step_copy_at {ops : Array Oper} {o : Oper} {a : Act} {w : World} {K : Act → World → Prop} {Q : Exit → Act → World → Prop} {E : Prop}
    (hg : o.guard = none) (d x : Operand) (dT sT : TypeId) (hop : o.op = Op.call { callee := Callee.builtin Builtin.copy, args := #[d, x], argTypes := #[dT, sT] })
    (v u : Value) (hd : a.eval d = v) (hx : a.eval x = u) {v' : Value} {w' : World} (hr : (Builtin.copy_ #[dT, sT] o.type #[v, u]).run P w = .ok v' w') (hK : K (a.put o.dst v') w') :
    if Region.wanted o (yielded ops a.tmps) = true then Oper.wp P o a w K Q else E := by
  have hw : Region.wanted o (yielded ops a.tmps) = true := by simp [Region.wanted, hg]
  rw [if_pos hw]
  unfold Oper.wp
  simp [execOp, hop, resolve, invoke, builtin, hd, hx, hr, Result.andThen]
  exact hK
theorem zeroCells_size (zs : Array Value) (n : Nat) : (Builtin.zeroCells zs n).size = n * zs.size := by simp [Builtin.zeroCells]
theorem zeroCells_one {zs : Array Value} (h1 : ∀ v ∈ zs, v.oneCell' = true) (n : Nat) : ∀ v ∈ (Builtin.zeroCells zs n).toList, v.oneCell' = true := by
  intro v hv
  unfold Builtin.zeroCells at hv
  simp only [Array.toList_map, List.mem_map] at hv
  obtain ⟨i, hi, rfl⟩ := hv
  have hi' : i < n * zs.size := by simpa using hi
  have hz : 0 < zs.size := by
    rcases Nat.eq_zero_or_pos zs.size with q | q
    · rw [q] at hi'; omega
    · exact q
  have hm : i % zs.size < zs.size := Nat.mod_lt _ hz
  rw [getElem!_pos zs (i % zs.size) hm]
  exact h1 _ (Array.getElem_mem hm)
/-- clear of a row's first n elements. -/
theorem run_clear_w (w : World) (t e ty : TypeId) (z : Value) (ht : P.underlying t = some (.slice e)) (hz : (P.info? e).map (·.zero) = some (some z)) (h1 : ∀ v ∈ z.cells, v.oneCell' = true)
    (g o n c : Nat) (hn : 0 < n) (cur : Array Value) (ct : TypeId) (hg : w.heap[g]? = some (.cells cur ct (0, 0))) (hfit : o + n * z.cells.size ≤ cur.size) :
    (Builtin.clear_ #[t] ty #[.slice (some ⟨g, o, none⟩) n c]).run P w = .ok (.tuple #[]) (w.setRow g (cur.toList.take o ++ (Builtin.zeroCells z.cells n).toList ++ cur.toList.drop (o + n * z.cells.size)).toArray) := by
  have hst := run_storeCells_at P g o ct (Builtin.zeroCells z.cells n).toList 0 cur w hg (by simp [zeroCells_size]; exact hfit) (zeroCells_one h1 n)
  simp only [Array.length_toList, zeroCells_size, Nat.add_zero] at hst
  have hv : (zeroValue e).run P w = .ok z w := by
    cases hq : P.info? e with
    | none => simp [hq] at hz
    | some i =>
      have : i.zero = some z := by simpa [hq] using hz
      simp [zeroValue, typeInfo, hq, this]
  obtain ⟨m, rfl⟩ : ∃ m, n = m + 1 := ⟨n - 1, by omega⟩
  simp [Builtin.clear_, run_underlying ht, hv, hst]
theorem run_clear_none (w : World) (t e ty : TypeId) (ht : P.underlying t = some (.slice e)) (a : Option Addr) (c : Nat) : (Builtin.clear_ #[t] ty #[.slice a 0 c]).run P w = .ok (.tuple #[]) w := by
  cases a <;> simp [Builtin.clear_, run_underlying ht]
theorem wpList_clear_at (w : World) {ops : Array Oper} {rest : List Oper} {o : Oper} {a : Act} {Q : Exit → Act → World → Prop} (hgd : o.guard = none) (s : Operand) (t : TypeId)
    (ho : o.op = .call { callee := .builtin .clear, args := #[s], argTypes := #[t] }) (v : Value) (hs : a.eval s = v) {v' : Value} {w' : World}
    (hr : (Builtin.clear_ #[t] o.type #[v]).run P w = .ok v' w') (h : wpList P ops Q rest (a.put o.dst v') w') : wpList P ops Q (o :: rest) a w := by
  refine wpList_plain hgd fun _ hK => ?_
  unfold Oper.wp execOp
  simp only [ho, resolve, invoke, builtin, Sem.run_bind, Sem.run_pure, Result.andThen_ok, List.map_toArray, List.map_cons, List.map_nil, hs, hr]
  exact hK _ _ h
end
end Go.Proofs.YtpmojmhamgcfmaaGreat.wd

/-
  slices.Insert of one gluing: a new row, or in place.
-/
namespace Go.Proofs.YtpmojmhamgcfmaaGreat.wd
open Go.ChangeShapes Go.WideShapes Go.ChangeAt Go.RowKit
open Go.Proofs.YtpmojmhamgcfmaaGreat.mem Go.Proofs.YtpmojmhamgcfmaaGreat.ints Go.Proofs.YtpmojmhamgcfmaaGreat.arr Go.Proofs.YtpmojmhamgcfmaaGreat.pm Go.Proofs.YtpmojmhamgcfmaaGreat.sf Go.Proofs.YtpmojmhamgcfmaaGreat.gl
set_option linter.unusedVariables false
set_option maxRecDepth 100000

theorem infoG : (Tryz.prog.info? 62).map (fun i => (i.zero, i.size, i.bytes)) = some (some (.agg (V zero49).toArray), 49, 392) := by kernel_rfl
theorem own_cells {w : World} {base g n c : Nat} {e : TypeId} {size : Nat} {xs : List Value} (h : w.ownsRow base e size (.slice (some ⟨g, 0, none⟩) n c) n xs) (j : Nat) (v : Value) (hj : xs[j]? = some v) : w.cell? ⟨g, j, none⟩ = some v := by
  have := h.cells (g := g) rfl j v hj
  rwa [show ((⟨g, 0, none⟩ : Addr).add j) = ⟨g, j, none⟩ by unfold Addr.add; split <;> simp_all] at this
theorem firstCells_at {P : Program} (w : World) (size k g l c : Nat) (xs : List Value) (hk : k * size ≤ xs.length) (hc : ∀ (j : Nat) v, xs[j]? = some v → w.cell? ⟨g, j, none⟩ = some v) :
    (Builtin.firstCells size k (.slice (some ⟨g, 0, none⟩) l c)).run P w = .ok (xs.take (k * size)).toArray w := by
  have h := run_loadCells_list (P := P) w ⟨g, 0, none⟩ (xs.take (k * size)) (fun j v hj => by
    rw [show ((⟨g, 0, none⟩ : Addr).add j) = ⟨g, j, none⟩ by unfold Addr.add; split <;> simp_all]
    rw [List.getElem?_take] at hj
    split at hj
    · exact hc j v hj
    · cases hj)
  rw [List.length_take, Nat.min_eq_left hk] at h
  exact h
set_option maxHeartbeats 4000000 in
set_option maxRecDepth 100000 in
theorem insG_grow (g n i vb base : Nat) (xs x : List Value) (w : World) (ho : w.ownsRow base 62 49 (.slice (some ⟨g, 0, none⟩) n n) n xs) (hi : i < n) (hn : n ≤ 1000)
    (hx : Arr w vb x 62) (hxl : x.length = 49) (h1x : ∀ v ∈ x, v.oneCell' = true) (h1 : ∀ v ∈ xs, v.oneCell' = true) (hg : g < w.heap.size) :
    Calls Tryz.prog 66 #[.slice (some ⟨g, 0, none⟩) n n, .int .i64 i, .slice (some ⟨vb, 0, none⟩) 1 1] w fun e w' =>
      ∃ cap, e = .returned (.slice (some ⟨w.heap.size, 0, none⟩) (n + 1) cap) ∧ w'.ownsRow base 62 49 (.slice (some ⟨w.heap.size, 0, none⟩) (n + 1) cap) (n + 1) (xs.take (i * 49) ++ x ++ xs.drop (i * 49)) ∧ w.grownBy w' none := by
  obtain ⟨i0, hi0, hz0, hzs, hzb⟩ := info_parts infoG
  have hbase := (ho.lt g rfl).1
  have hxn : xs.length = n * 49 := ho.1
  have hcs := own_cells ho
  have hz2 : ¬ ((i : Int) = (n : Int)) := by omega
  have hz3 : (n : Int) < (n : Int) + 1 := by omega
  have hkk : (n : Int) + 1 - (i : Int) = ((n + 1 - i : Nat) : Int) := by omega
  have hik : i + (n + 1 - i) = n + 1 := by omega
  have hold : (Builtin.firstCells i0.size i (.slice (some ⟨g, 0, none⟩) i n)).run Tryz.prog w.drew = .ok (xs.take (i * 49)).toArray w.drew := by
    rw [hzs]
    exact firstCells_at w.drew 49 i g i n xs (by omega) hcs
  have hrz : ∀ ty, (Builtin.append_ #[47, 3] ty #[.slice (some ⟨g, 0, none⟩) i n, .int .i64 ((n : Int) + 1 - (i : Int))]).run Tryz.prog w =
      .ok (.slice (some ⟨w.heap.size, 0, none⟩) (n + 1) (grownCap w (n + 1) n 62)) (w.drew.alloc (.cells ((xs.take (i * 49)).toArray ++ Builtin.zeroCells (Value.agg (V zero49).toArray).cells (n + 1 - i) ++ Builtin.zeroCells (Value.agg (V zero49).toArray).cells (grownCap w (n + 1) n 62 - (n + 1))) 62)) := fun ty => by
    have h := Lib.run_append_grow_zeros w 47 3 ty 62 i0 _ .i64 .i64 Tryz.underlying47 Tryz.underlying3 hi0 hz0 (some ⟨g, 0, none⟩) i n (xs.take (i * 49)) hold (n + 1 - i) (by omega) (by omega) (by omega) (by omega) (by rw [hzb]; omega)
      (by rw [hzb, hik]; exact growslice_fits_wide (by omega) (by omega))
    rw [hik] at h
    rw [hkk]
    exact h
  obtain ⟨G, hG⟩ : ∃ G, G = grownCap w (n + 1) n 62 := ⟨_, rfl⟩
  have hGn : n + 1 ≤ G := by rw [hG]; exact grownCap_ge w _ _ _
  have hGm : G ≤ maxLen := by rw [hG]; exact grownCap_le_maxLen w _ _ _ (by unfold maxLen; omega)
  have zc : ((Value.agg (V zero49).toArray).cells).size = 49 := by kernel_rfl
  obtain ⟨ROW, hROW⟩ : ∃ ROW : Array Value, ROW = (xs.take (i * 49)).toArray ++ Builtin.zeroCells (Value.agg (V zero49).toArray).cells (n + 1 - i) ++ Builtin.zeroCells (Value.agg (V zero49).toArray).cells (G - (n + 1)) := ⟨_, rfl⟩
  rw [← hG] at hrz
  rw [← hROW] at hrz
  have hRl : ROW.size = G * 49 := by
    rw [hROW, Array.size_append, Array.size_append, zeroCells_size, zeroCells_size, zc, List.size_toArray, List.length_take]
    omega
  have hRt : ROW.toList.take (i * 49) = xs.take (i * 49) := by
    rw [hROW]
    simp only [Array.toList_append, List.append_assoc]
    rw [List.take_append_of_le_length (by simp; omega)]
    show List.take (i * 49) (List.take (i * 49) xs) = _
    rw [List.take_take, Nat.min_self]
  obtain ⟨W1, hW1⟩ : ∃ W1, W1 = w.drew.alloc (.cells ROW 62) := ⟨_, rfl⟩
  rw [← hW1] at hrz
  have H1 : W1.heap[w.heap.size]? = some (.cells ROW 62 (0, 0)) := by rw [hW1]; exact heap_alloc_last w.drew _
  have B1 : w.grownBy W1 none := by
    rw [hW1]
    exact ⟨rfl, rfl, rfl, by simp, fun k hk _ => ((Below.refl w.heap.size w.drew).alloc (Nat.le_refl _) _).block k hk⟩
  have hs1 : W1.heap.size = w.heap.size + 1 := by rw [hW1]; simp
  obtain ⟨R2, hR2⟩ : ∃ R2 : Array Value, R2 = (ROW.toList.take (i * 49) ++ x ++ ROW.toList.drop (i * 49 + x.length)).toArray := ⟨_, rfl⟩
  have hR2l : R2.size = G * 49 := by rw [hR2]; simp [hxl, hRl]; omega
  have hsz : (Tryz.prog.info? 62).map (·.size) = some 49 := info49
  have hvb := hx.lt
  have hcpA : ∀ ty dc, (Builtin.copy_ #[47, 47] ty #[.slice (some ⟨w.heap.size, i * 49, none⟩) (n + 1 - i) dc, .slice (some ⟨vb, 0, none⟩) 1 1]).run Tryz.prog W1 = .ok (goInt (1 : Nat)) (W1.setRow w.heap.size R2) := fun ty dc => by
    rw [hR2]
    exact run_copy_w W1 _ _ ty 62 49 w.heap.size (i * 49) (n + 1 - i) dc ⟨vb, 0, none⟩ 1 1 1 ROW 62 x Tryz.underlying47 hsz H1 (by simp only [Nat.min_def]; split <;> omega) (by omega)
      (fun j v hj => by
        have h := hx.cell hj
        rw [show ((⟨vb, 0, none⟩ : Addr).add j) = ⟨vb, j, none⟩ by unfold Addr.add; split <;> simp_all]
        rw [World.cell?_of_block (w := w) (a := ⟨vb, j, none⟩) (B1.block vb hvb (by simp))]
        exact h) (by omega) h1x
  obtain ⟨W2, hW2⟩ : ∃ W2, W2 = W1.setRow w.heap.size R2 := ⟨_, rfl⟩
  rw [← hW2] at hcpA
  have H2 : W2.heap[w.heap.size]? = some (.cells R2 62 (0, 0)) := by rw [hW2]; exact setRow_heap _ _ _ _ _ _ H1
  have B2 : w.grownBy W2 none := by
    rw [hW2]
    exact ⟨B1.os, B1.tape, B1.output, by simp; omega, fun k hk hn => by rw [setRow_other _ _ _ _ (by omega)]; exact B1.block k hk hn⟩
  have hR2t : R2.toList.take ((i + 1) * 49) = xs.take (i * 49) ++ x := by
    have l1 : (xs.take (i * 49)).length = i * 49 := by rw [List.length_take]; omega
    rw [hR2, hRt, List.toList_toArray, List.take_append_of_le_length (by simp [hxl]; omega)]
    exact List.take_of_length_le (by simp [hxl]; omega)
  have hdl : (xs.drop (i * 49)).length = (n - i) * 49 := by rw [List.length_drop, hxn]; omega
  obtain ⟨R3, hR3⟩ : ∃ R3 : Array Value, R3 = (R2.toList.take ((i + 1) * 49) ++ xs.drop (i * 49) ++ R2.toList.drop ((i + 1) * 49 + (xs.drop (i * 49)).length)).toArray := ⟨_, rfl⟩
  have hR3l : R3.size = G * 49 := by rw [hR3]; simp [hdl, hR2l]; omega
  have hR3t : R3.toList.take ((n + 1) * 49) = xs.take (i * 49) ++ x ++ xs.drop (i * 49) := by
    rw [hR3, hR2t, List.toList_toArray, List.take_append_of_le_length (by simp [hxl]; omega)]
    exact List.take_of_length_le (by simp [hxl]; omega)
  have hcpB : ∀ (W : World), W.heap = W2.heap → ∀ ty dc sc, (Builtin.copy_ #[47, 47] ty #[.slice (some ⟨w.heap.size, (i + 1) * 49, none⟩) (n - i) dc, .slice (some ⟨g, i * 49, none⟩) (n - i) sc]).run Tryz.prog W = .ok (goInt (n - i : Nat)) (W.setRow w.heap.size R3) := fun W hW ty dc sc => by
    rw [hR3]
    exact run_copy_w W _ _ ty 62 49 w.heap.size ((i + 1) * 49) (n - i) dc ⟨g, i * 49, none⟩ (n - i) sc (n - i) R2 62 (xs.drop (i * 49)) Tryz.underlying47 hsz (by rw [hW]; exact H2) (by simp only [Nat.min_def]; split <;> omega) hdl
      (fun j v hj => by
        rw [show ((⟨g, i * 49, none⟩ : Addr).add j) = ⟨g, i * 49 + j, none⟩ by unfold Addr.add; split <;> simp_all]
        have e : W.heap[g]? = w.heap[g]? := by rw [hW]; exact B2.block g hg (by simp)
        rw [World.cell?_of_block (w := w) (a := ⟨g, i * 49 + j, none⟩) e]
        rw [List.getElem?_drop] at hj
        exact hcs _ v hj) (by rw [hdl, hR2l]; have := Nat.mul_le_mul_right 49 hGn; omega) (fun v hv => h1 v (List.mem_of_mem_drop hv))
  have FIN : Hid (∀ (W : World), W.heap = W2.heap → W.os = W2.os → W.tape = W2.tape → W.output = W2.output → (W.setRow w.heap.size R3).ownsRow base 62 49 (.slice (some ⟨w.heap.size, 0, none⟩) (n + 1) G) (n + 1) (xs.take (i * 49) ++ x ++ xs.drop (i * 49)) ∧ w.grownBy (W.setRow w.heap.size R3) none) := Lib.hid (fun W e1 e2 e3 e4 => by
    refine ⟨⟨by simp [hxl]; omega, .inr ⟨w.heap.size, G, R3, rfl, by omega, setRow_heap _ _ R2 _ _ _ (by rw [e1]; exact H2), hGn, hGm, hR3l, hR3t⟩⟩, ⟨e2.trans B2.os, e3.trans B2.tape, e4.trans B2.output, by simp [e1]; exact B2.size, fun k hk hn => ?_⟩⟩
    rw [setRow_other _ _ _ _ (by omega), e1]
    exact B2.block k hk hn)
  have hGi : ¬ (G = i) := by omega
  have hGim : ¬ (G = i + 1) := by omega
  have hni : ¬ (n = i) := by omega
  have hw1 : IntKind.i64.wrap ((i : Int) + 1) = (i : Int) + 1 := by rw [IntKind.wrap_i64]; omega
  have htn : ((i : Int) + 1).toNat = i + 1 := by omega
  have hin : i ≤ n := by omega
  have hb1 : (0 : Int) ≤ (i : Int) + 1 := by omega
  have hb3 : (i : Int) ≤ (n : Int) := by omega
  clear hkk hik hold hROW hG hRl hR2 hR3 hR2t hR3t hR3l hR2l hRt hdl zc H1 H2 B1 B2 hcs hxn hW1 hW2 ho hbase hGm h1 h1x hx hs1 hxl
  go_enter Tryz.func66, Tryz.ntmps66
  go_wp2_with (first
    | (at_builtin; refine Lib.wpList_append_run _ rfl _ _ _ _ rfl _ _ rfl rfl _ _ (hrz _) ?_)
    | (at_builtin; refine wpList_copy_at _ rfl _ _ 47 47 rfl _ _ rfl rfl (hcpA _ _) ?_)
    | (at_builtin; refine wpList_copy_at _ rfl _ _ 47 47 rfl _ _ rfl rfl (hcpB _ rfl _ _ _) ?_))
  go_region_law (refine step_copy_at rfl _ _ 47 47 rfl (.slice (some ⟨w.heap.size, (i + 1) * 49, none⟩) (n - i) (G - (i + 1))) (.slice (some ⟨g, i * 49, none⟩) (n - i) (n - i)) (by simp [Act.eval, Act.put]) (by simp [Act.eval, Act.put]) (hcpB W2.drew rfl _ _ _) ?_)
  go_wp2
  go_ret
  exact ⟨G, rfl, FIN.out W2.drew rfl rfl rfl rfl⟩
set_option maxHeartbeats 4000000 in
set_option maxRecDepth 100000 in
theorem insG_shift (g n c i vb base : Nat) (xs x : List Value) (w : World) (ho : w.ownsRow base 62 49 (.slice (some ⟨g, 0, none⟩) n c) n xs) (hi : i < n) (hn : n ≤ 1000) (hc : n + 1 ≤ c)
    (hx : Arr w vb x 62) (hxl : x.length = 49) (h1x : ∀ v ∈ x, v.oneCell' = true) (h1 : ∀ v ∈ xs, v.oneCell' = true) (hne : vb ≠ g) :
    Calls Tryz.prog 66 #[.slice (some ⟨g, 0, none⟩) n c, .int .i64 i, .slice (some ⟨vb, 0, none⟩) 1 1] w fun e w' =>
      e = .returned (.slice (some ⟨g, 0, none⟩) (n + 1) c) ∧ w'.ownsRow base 62 49 (.slice (some ⟨g, 0, none⟩) (n + 1) c) (n + 1) (xs.take (i * 49) ++ x ++ xs.drop (i * 49)) ∧ w.grownBy w' (some g) := by
  have hcs := own_cells ho
  have hxn : xs.length = n * 49 := ho.1
  obtain ⟨cur, hbg, hh, hcm, hcz, hct⟩ : ∃ cur, base ≤ g ∧ w.heap[g]? = some (.cells cur 62 (0, 0)) ∧ c ≤ maxLen ∧ cur.size = c * 49 ∧ cur.toList.take (n * 49) = xs := by
    rcases ho.2 with ⟨q, _⟩ | ⟨g', cap, cur, q, h1, h2, h3, h4, h5, h6⟩
    · cases q
    · injection q with q1 q2 q3
      injection q1 with q1
      injection q1 with q1
      subst q1; subst q3
      exact ⟨cur, h1, h2, h4, h5, h6⟩
  have hlt : g < w.heap.size := (Array.getElem?_eq_some_iff.1 hh).1
  have hvb := hx.lt
  have hsz : (Tryz.prog.info? 62).map (·.size) = some 49 := info49
  have hdl : (xs.drop (i * 49)).length = (n - i) * 49 := by rw [List.length_drop, hxn]; omega
  have hmul : (n + 1) * 49 ≤ c * 49 := Nat.mul_le_mul_right 49 hc
  obtain ⟨R2, hR2⟩ : ∃ R2 : Array Value, R2 = (cur.toList.take ((i + 1) * 49) ++ xs.drop (i * 49) ++ cur.toList.drop ((i + 1) * 49 + (xs.drop (i * 49)).length)).toArray := ⟨_, rfl⟩
  have hR2l : R2.size = c * 49 := by rw [hR2]; simp [hdl, hcz]; omega
  have hcpA : ∀ (W : World), W.heap = w.heap → ∀ ty dc sc, (Builtin.copy_ #[47, 47] ty #[.slice (some ⟨g, (i + 1) * 49, none⟩) (n - i) dc, .slice (some ⟨g, i * 49, none⟩) (n + 1 - i) sc]).run Tryz.prog W = .ok (goInt (n - i : Nat)) (W.setRow g R2) := fun W hW ty dc sc => by
    rw [hR2]
    exact run_copy_w W _ _ ty 62 49 g ((i + 1) * 49) (n - i) dc ⟨g, i * 49, none⟩ (n + 1 - i) sc (n - i) cur 62 (xs.drop (i * 49)) Tryz.underlying47 hsz (by rw [hW]; exact hh) (by simp only [Nat.min_def]; split <;> omega) hdl
      (fun j v hj => by
        rw [show ((⟨g, i * 49, none⟩ : Addr).add j) = ⟨g, i * 49 + j, none⟩ by unfold Addr.add; split <;> simp_all]
        rw [World.cell?_of_block (w := w) (a := ⟨g, i * 49 + j, none⟩) (by rw [hW])]
        rw [List.getElem?_drop] at hj
        exact hcs _ v hj) (by rw [hdl, hcz]; omega) (fun v hv => h1 v (List.mem_of_mem_drop hv))
  obtain ⟨W2, hW2⟩ : ∃ W2, W2 = w.drew.setRow g R2 := ⟨_, rfl⟩
  have hcpA' := hcpA w.drew rfl
  rw [← hW2] at hcpA'
  have H2 : W2.heap[g]? = some (.cells R2 62 (0, 0)) := by rw [hW2]; exact setRow_heap w.drew _ _ _ _ _ hh
  have B2 : ∀ k, k ≠ g → W2.heap[k]? = w.heap[k]? := fun k hk => by rw [hW2, setRow_other _ _ _ _ hk]; rfl
  have S2 : W2.heap.size = w.heap.size := by rw [hW2]; simp
  have O2 : W2.os = w.os ∧ W2.tape = w.tape ∧ W2.output = w.output := by rw [hW2]; exact ⟨rfl, rfl, rfl⟩
  have c1 : cur.toList.take (i * 49) = xs.take (i * 49) := by rw [← hct, List.take_take, Nat.min_eq_left (by omega)]
  have hR2t : R2.toList.take (i * 49) = xs.take (i * 49) := by
    rw [hR2, List.toList_toArray, List.append_assoc, List.take_append_of_le_length (by simp; omega), List.take_take, Nat.min_eq_left (by omega), c1]
  have l2 : (cur.toList.take ((i + 1) * 49)).length = (i + 1) * 49 := by simp; omega
  have hR2d : R2.toList.drop ((i + 1) * 49) = xs.drop (i * 49) ++ cur.toList.drop ((i + 1) * 49 + (xs.drop (i * 49)).length) := by
    rw [hR2, List.toList_toArray, List.append_assoc, List.drop_append, List.drop_of_length_le (by omega), l2, Nat.sub_self]
    rfl
  obtain ⟨R3, hR3⟩ : ∃ R3 : Array Value, R3 = (R2.toList.take (i * 49) ++ x ++ R2.toList.drop (i * 49 + x.length)).toArray := ⟨_, rfl⟩
  have hR3l : R3.size = c * 49 := by rw [hR3]; simp [hxl, hR2l]; omega
  have hR3t : R3.toList.take ((n + 1) * 49) = xs.take (i * 49) ++ x ++ xs.drop (i * 49) := by
    rw [hR3, hR2t, hxl, show i * 49 + 49 = (i + 1) * 49 by omega, hR2d, List.toList_toArray, ← List.append_assoc, List.take_append_of_le_length (by simp [hxl]; omega)]
    exact List.take_of_length_le (by simp [hxl]; omega)
  have hcpB : ∀ ty dc, (Builtin.copy_ #[47, 47] ty #[.slice (some ⟨g, i * 49, none⟩) (n + 1 - i) dc, .slice (some ⟨vb, 0, none⟩) 1 1]).run Tryz.prog W2 = .ok (goInt (1 : Nat)) (W2.setRow g R3) := fun ty dc => by
    rw [hR3]
    exact run_copy_w W2 _ _ ty 62 49 g (i * 49) (n + 1 - i) dc ⟨vb, 0, none⟩ 1 1 1 R2 62 x Tryz.underlying47 hsz H2 (by simp only [Nat.min_def]; split <;> omega) (by omega)
      (fun j v hj => by
        have h := hx.cell hj
        rw [show ((⟨vb, 0, none⟩ : Addr).add j) = ⟨vb, j, none⟩ by unfold Addr.add; split <;> simp_all]
        rw [World.cell?_of_block (w := w) (a := ⟨vb, j, none⟩) (B2 vb hne)]
        exact h) (by omega) h1x
  have FIN : Hid ((W2.setRow g R3).ownsRow base 62 49 (.slice (some ⟨g, 0, none⟩) (n + 1) c) (n + 1) (xs.take (i * 49) ++ x ++ xs.drop (i * 49)) ∧ w.grownBy (W2.setRow g R3) (some g)) := Lib.hid (by
    refine ⟨⟨by simp [hxl]; omega, .inr ⟨g, c, R3, rfl, hbg, setRow_heap _ _ R2 _ _ _ H2, hc, hcm, hR3l, hR3t⟩⟩, ⟨O2.1, O2.2.1, O2.2.2, by simp [S2], fun k hk hn => ?_⟩⟩
    have hkg : k ≠ g := fun e => hn (by rw [e])
    rw [setRow_other _ _ _ _ hkg]
    exact B2 k hkg)
  have hov : ∀ lb cb, (callFunc 76 #[.slice (some ⟨vb, 0, none⟩) 1 1, .slice (some ⟨g, (i + 1) * 49, none⟩) lb cb]).run Tryz.prog w = .ok (.value (.bool false)) w := fun lb cb => by
    rw [run_callFunc_extern Tryz.func76 (by kernel_rfl) (by kernel_rfl) (by kernel_rfl) (e := Extern.SlicesOverlaps.overlaps #[47, 47] #[4]) (by kernel_rfl),
      Lib.run_overlaps_apart w 47 4 62 Tryz.underlying47 49 (fun w' => by
        obtain ⟨j0, hj0, _, hjs, _⟩ := info_parts infoG
        simp [sizeOf, typeInfo, hj0, hjs]) ⟨vb, 0, none⟩ ⟨g, (i + 1) * 49, none⟩ 1 1 lb cb hne 62 62 49 (c * 49) (by have h : w.heap[vb]? = _ := hx; simp [World.shape?, h, hxl]) (by simp [World.shape?, hh, hcz]) (by omega) (hx.frozen 0) (hx.frozen 49)]
    rfl
  have hz2 : ¬ ((i : Int) = (n : Int)) := by omega
  have hz3 : ¬ ((c : Int) < (n : Int) + 1) := by omega
  have hci : ¬ (c = i) := by omega
  have hci1 : ¬ (c = i + 1) := by omega
  have hw1 : IntKind.i64.wrap ((i : Int) + 1) = (i : Int) + 1 := by rw [IntKind.wrap_i64]; omega
  have htn : ((i : Int) + 1).toNat = i + 1 := by omega
  have hin : i ≤ n := by omega
  have hb1 : (0 : Int) ≤ (i : Int) + 1 := by omega
  have hb3 : (i : Int) ≤ (n : Int) := by omega
  have hb4 : (n : Int) + 1 ≤ (c : Int) := by omega
  have hb5 : (i : Int) ≤ (n : Int) + 1 := by omega
  clear hW2 hR2 hR3 hR2t hR3t hR3l hR2l hdl H2 B2 hcs hxn ho hbg h1 h1x hx hxl hcpA hcm hcz hct hh hmul S2 O2 c1 l2 hR2d
  go_enter Tryz.func66, Tryz.ntmps66
  go_wp2_with (simp only [hov])
  go_region_law (refine step_copy_at rfl _ _ 47 47 rfl (.slice (some ⟨g, (i + 1) * 49, none⟩) (n - i) (c - (i + 1))) (.slice (some ⟨g, i * 49, none⟩) (n + 1 - i) (c - i)) (by simp [Act.eval, Act.put]) (by simp [Act.eval, Act.put]) (hcpA' _ _ _) ?_)
  go_wp2_with (at_builtin; refine wpList_copy_at _ rfl _ _ 47 47 rfl _ _ rfl rfl (hcpB _ _) ?_)
  go_ret
  exact ⟨rfl, FIN.out⟩
set_option maxHeartbeats 4000000 in
theorem insG_end (v : Value) (n vb base : Nat) (xs x : List Value) (w : World) (ho : w.ownsRow base 62 49 v n xs) (hn : n ≤ 1000) (hb : base ≤ w.heap.size)
    (hx : Arr w vb x 62) (hxl : x.length = 49) (h1x : ∀ v ∈ x, v.oneCell' = true) :
    Calls Tryz.prog 66 #[v, .int .i64 n, .slice (some ⟨vb, 0, none⟩) 1 1] w fun e w' =>
      ∃ v', e = .returned v' ∧ w'.ownsRow base 62 49 v' (n + 1) (xs ++ x) ∧ w.grownBy w' v.ownBlock ∧ ∀ b, v'.ownBlock = some b → v.ownBlock = some b ∨ w.heap.size ≤ b := by
  obtain ⟨i0, hi0, hz0, hzs, hzb⟩ := info_parts infoG
  have zc : ((Value.agg (V zero49).toArray).cells).size = 49 := by kernel_rfl
  have HN : Hid (∀ (j : Nat) u, x[j]? = some u → w.cell? ((⟨vb, 0, none⟩ : Addr).add j) = some u) := Lib.hid (fun j u hj => by
    rw [show ((⟨vb, 0, none⟩ : Addr).add j) = ⟨vb, j, none⟩ by unfold Addr.add; split <;> simp_all]
    exact hx.cell hj)
  have HO := Lib.hid ho
  have H1 := Lib.hid h1x
  have h63 : n + 1 ≤ maxLen := by unfold maxLen; omega
  have hby : (n + 1) * 392 ≤ 140737488355328 := by omega
  have hx2 : x.length = 1 * 49 := by omega
  have HC := Lib.hid ho.2
  clear hxl hx h1x ho
  rcases HC.out with ⟨q, q2⟩ | ⟨g, c, cur, q, h1', h2, h3, h4, h5, h6⟩
  · subst q
    subst q2
    clear HC
    have hxs : xs = [] := by simpa using HO.out.1
    subst hxs
    go_enter Tryz.func66, Tryz.ntmps66
    go_wp2_with (at_builtin; refine wpList_append_lies w rfl _ _ 47 rfl base 62 i0 _ 49 392 Tryz.underlying47 hi0 hz0 hzs hzb zc (by decide) (.slice none 0 0) 0 [] rfl HO.out ⟨vb, 0, none⟩ 1 1 x rfl hx2 HN.out H1.out (by decide) h63 hby hb w.heap.size rfl ?_)
    intro g' cap w' ho hg hb' hlt
    have HO' := Lib.hid ho; have HG := Lib.hid hg; have HB := Lib.hid hb'
    clear ho hg hb'
    go_wp2_with fail
    go_ret
    refine ⟨_, rfl, HO'.out, HG.out, fun b e => ?_⟩
    have e2 : g' = b := by simpa [Value.ownBlock] using e
    rcases HB.out with q | q
    · exact .inl (by rw [q, e2])
    · exact .inr (by omega)
  · subst q
    clear HC h1' h2 h4 h5 h6
    by_cases hcn : c = n
    · subst hcn
      go_enter Tryz.func66, Tryz.ntmps66
      go_wp2_with (at_builtin; refine wpList_append_lies w rfl _ _ 47 rfl base 62 i0 _ 49 392 Tryz.underlying47 hi0 hz0 hzs hzb zc (by decide) (.slice (some ⟨g, 0, none⟩) c c) c xs rfl HO.out ⟨vb, 0, none⟩ 1 1 x rfl hx2 HN.out H1.out (by decide) h63 hby hb w.heap.size rfl ?_)
      intro g' cap w' ho hg hb' hlt
      have HO' := Lib.hid ho; have HG := Lib.hid hg; have HB := Lib.hid hb'
      clear ho hg hb'
      go_wp2_with fail
      go_ret
      refine ⟨_, rfl, HO'.out, HG.out, fun b e => ?_⟩
      have e2 : g' = b := by simpa [Value.ownBlock] using e
      rcases HB.out with q | q
      · exact .inl (by rw [q, e2])
      · exact .inr (by omega)
    · go_enter Tryz.func66, Tryz.ntmps66
      go_wp2_with (at_builtin; refine wpList_append_lies w rfl _ _ 47 rfl base 62 i0 _ 49 392 Tryz.underlying47 hi0 hz0 hzs hzb zc (by decide) (.slice (some ⟨g, 0, none⟩) n c) n xs rfl HO.out ⟨vb, 0, none⟩ 1 1 x rfl hx2 HN.out H1.out (by decide) h63 hby hb w.heap.size rfl ?_)
      intro g' cap w' ho hg hb' hlt
      have HO' := Lib.hid ho; have HG := Lib.hid hg; have HB := Lib.hid hb'
      clear ho hg hb'
      go_wp2_with fail
      go_ret
      refine ⟨_, rfl, HO'.out, HG.out, fun b e => ?_⟩
      have e2 : g' = b := by simpa [Value.ownBlock] using e
      rcases HB.out with q | q
      · exact .inl (by rw [q, e2])
      · exact .inr (by omega)
theorem grownBy_any {w w' : World} {r : Option Nat} (h : w.grownBy w' none) : w.grownBy w' r := ⟨h.os, h.tape, h.output, h.size, fun k hk _ => h.block k hk (by simp)⟩
/-- slices.Insert of one gluing at place i. -/
theorem insG_any (v : Value) (n i vb base : Nat) (xs x : List Value) (w : World) (ho : w.ownsRow base 62 49 v n xs) (hi : i ≤ n) (hn : n ≤ 1000) (hb : base ≤ w.heap.size)
    (hx : Arr w vb x 62) (hxl : x.length = 49) (h1x : ∀ v ∈ x, v.oneCell' = true) (h1 : ∀ v ∈ xs, v.oneCell' = true) (hne : ¬ v.ownBlock = some vb) :
    Calls Tryz.prog 66 #[v, .int .i64 i, .slice (some ⟨vb, 0, none⟩) 1 1] w fun e w' =>
      ∃ v', e = .returned v' ∧ w'.ownsRow base 62 49 v' (n + 1) (xs.take (i * 49) ++ x ++ xs.drop (i * 49)) ∧ w.grownBy w' v.ownBlock ∧ ∀ b, v'.ownBlock = some b → v.ownBlock = some b ∨ w.heap.size ≤ b := by
  by_cases hin : i = n
  · subst hin
    have e1 : xs.take (i * 49) = xs := List.take_of_length_le (by rw [ho.1]; omega)
    have e2 : xs.drop (i * 49) = [] := List.drop_of_length_le (by rw [ho.1]; omega)
    rw [e1, e2, List.append_nil]
    exact insG_end v i vb base xs x w ho hn hb hx hxl h1x
  · rcases ho.2 with ⟨q, q2⟩ | ⟨g, c, cur, rfl, h1', h2, h3, h4, h5, h6⟩
    · omega
    · have hg : g < w.heap.size := (Array.getElem?_eq_some_iff.1 h2).1
      have hne' : vb ≠ g := fun e => hne (by rw [e]; rfl)
      by_cases hc : c = n
      · subst hc
        refine (insG_grow g c i vb base xs x w ho (by omega) hn hx hxl h1x h1 hg).mono ?_
        rintro e w' ⟨cap, rfl, o, gr⟩
        refine ⟨_, rfl, o, grownBy_any gr, fun b e => .inr ?_⟩
        have : w.heap.size = b := by simpa [Value.ownBlock] using e
        omega
      · refine (insG_shift g n c i vb base xs x w ho (by omega) hn (by omega) hx hxl h1x h1 hne').mono ?_
        rintro e w' ⟨rfl, o, gr⟩
        exact ⟨_, rfl, o, gr, fun b e => .inl e⟩
end Go.Proofs.YtpmojmhamgcfmaaGreat.wd
