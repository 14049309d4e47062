/-
  What FnPaths asks of a path: it is a walk along its letters that comes back; its visits. Plain mathematics.
-/
import Derived.Test.YtkkklpchkkdhfaaUa
namespace Go.Proofs.Ytkkklpchkkdhfaa.pth
open Go.Proofs.Ytkkklpchkkdhfaa.mem Go.Proofs.Ytkkklpchkkdhfaa.ints Go.Proofs.Ytkkklpchkkdhfaa.arr Go.Proofs.Ytkkklpchkkdhfaa.pm Go.Proofs.Ytkkklpchkkdhfaa.permOf Go.Proofs.Ytkkklpchkkdhfaa.inv Go.Proofs.Ytkkklpchkkdhfaa.permOk Go.Proofs.Ytkkklpchkkdhfaa.dr
set_option linter.unusedVariables false
set_option maxRecDepth 100000

theorem enW_app (r u : List Int) (A B : List UInt8) (x : Int) : enW r u (A ++ B) x = enW r u B (enW r u A x) := by simp [enW]
theorem sqW_app (r u : List Int) : ∀ (A B : List UInt8) (x : Int), sqW r u (A ++ B) x = sqW r u A x ++ sqW r u B (enW r u A x)
  | [], _, _ => rfl
  | c :: A, B, x => by
    rw [List.cons_append]
    show x :: sqW r u (A ++ B) (stW r u c x) = x :: (sqW r u A (stW r u c x) ++ sqW r u B (enW r u (c :: A) x))
    rw [sqW_app r u A B]; rfl
theorem sqW_at (r u : List Int) : ∀ (W : List UInt8) (x : Int) (j : Nat), j < W.length → (sqW r u W x)[j]? = some (enW r u (W.take j) x)
  | [], _, j, h => by simp at h
  | c :: W, x, 0, _ => by simp [sqW, enW]
  | c :: W, x, j + 1, h => by
    have := sqW_at r u W (stW r u c x) j (by simpa using h)
    simpa [sqW, enW] using this
theorem enW_take {r u : List Int} {W : List UInt8} {x : Int} {j : Nat} {c : UInt8} (h : W[j]? = some c) : enW r u (W.take (j + 1)) x = stW r u c (enW r u (W.take j) x) := by
  rw [List.take_add_one, h]; exact enW_snoc r u _ c x
section
variable {n : Nat} {r u : List Int} (s : Sf n r u)
include s
theorem rp_en (L : List UInt8) {i : Int} (h0 : 0 ≤ i) (h1 : i < n) : ∀ k, enW r u (rpL L k) i = it (ev n r u L) i k ∧ 0 ≤ it (ev n r u L) i k ∧ it (ev n r u L) i k < n
  | 0 => ⟨rfl, h0, h1⟩
  | k + 1 => by
    obtain ⟨e, a, b⟩ := rp_en L h0 h1 k
    have hstep : it (ev n r u L) i (k + 1) = enW r u L (it (ev n r u L) i k) := ev_en s L a b
    rw [hstep]
    refine ⟨?_, enW_in s L a b⟩
    rw [rpL, enW_app, e]
theorem psK_sq (L : List UInt8) {i : Int} (h0 : 0 ≤ i) (h1 : i < n) : ∀ k, psK r u L (ev n r u L) i k = sqW r u (rpL L k) i
  | 0 => rfl
  | k + 1 => by rw [psK, rpL, sqW_app, psK_sq L h0 h1 k, (rp_en s L h0 h1 k).1]
end
/-- The cycle comes back after its length. -/
theorem it_cyc {n : Nat} {E : List Int} (hb : Bij n E) {i : Int} (h0 : 0 ≤ i) (h1 : i < n) : it E i (cyc E n i).length = i := by
  exact (way_last (cyc_way hb h0 h1)).symm
/-- What FnPaths asks of a path that can begin. -/
structure Pth (r u : List Int) (i : Int) (m : Nat) (l : List Int) (W : List UInt8) (k : Nat) : Prop where
  k1 : 1 ≤ k
  kn : k ≤ r.length
  len : l.length = k * m
  wl : W.length = k * m
  first : l[0]? = some i
  inn : ∀ x ∈ l, 0 ≤ x ∧ x < r.length
  step : ∀ (j : Nat) (x : Int) (c : UInt8), l[j]? = some x → W[j]? = some c → l[(j + 1) % (k * m)]? = some (stW r u c x)
theorem pth_ok {r u : List Int} {i : Int} {a b : Nat} (h : okQ r u i a b = true) (hm : 1 ≤ a + b) : Pth r u i (a + b) (psF r u i a b) (rpL (swL a b) (rdF r u i a b)) (rdF r u i a b) := by
  obtain ⟨s, ⟨i0, i1⟩, hs⟩ := okQ_facts h
  have hb := pe_bij h
  have hk := rd_pos h
  have hw := cyc_way hb i0 i1
  have hkn : rdF r u i a b ≤ r.length := by unfold rdF; rw [if_pos h]; exact hw.inn.len
  have hback : it (peF r u a b) i (rdF r u i a b) = i := by unfold rdF; rw [if_pos h]; exact it_cyc hb i0 i1
  have hps : psF r u i a b = sqW r u (rpL (swL a b) (rdF r u i a b)) i := by
    unfold psF; rw [if_pos h]
    have := psK_sq s (swL a b) i0 i1 (rdF r u i a b)
    simpa [peF] using this
  have hen : enW r u (rpL (swL a b) (rdF r u i a b)) i = i := by
    rw [(rp_en s (swL a b) i0 i1 _).1]
    simpa [peF] using hback
  generalize hK : rdF r u i a b = K at *
  have hl := rpL_len (swL a b) K
  rw [swL_len] at hl
  generalize hW : rpL (swL a b) K = W at *
  have hpos : 0 < K * (a + b) := Nat.mul_pos (by omega) (by omega)
  rw [hps]
  refine ⟨hk.1, hkn, by rw [sqW_len, hl], hl, ?_, ?_, ?_⟩
  · rw [sqW_at r u W i 0 (by omega)]; rfl
  · exact sqW_in s W i0 i1
  · intro j x c hx hc
    have hj : j < W.length := (List.getElem?_eq_some_iff.1 hc).1
    rw [sqW_at r u W i j hj] at hx
    obtain rfl := Option.some.inj hx
    rw [hl] at hj
    rw [← enW_take hc]
    by_cases e : j + 1 = K * (a + b)
    · rw [e, Nat.mod_self, sqW_at r u W i 0 (by omega), List.take_zero, List.take_of_length_le (by omega), hen]; rfl
    · rw [Nat.mod_eq_of_lt (by omega), sqW_at r u W i (j + 1) (by omega)]
/-- How often each square is met. -/
theorem vs_fold (n : Nat) : ∀ (l v : List Int), v.length = n → (∀ x ∈ l, 0 ≤ x ∧ x < n) → (∀ y ∈ v, 0 ≤ y) →
    (l.foldl (fun v x => v.set x.toNat (v.getD x.toNat 0 + 1)) v).length = n ∧ (l.foldl (fun v x => v.set x.toNat (v.getD x.toNat 0 + 1)) v).sum = v.sum + l.length ∧ (∀ y ∈ l.foldl (fun v x => v.set x.toNat (v.getD x.toNat 0 + 1)) v, 0 ≤ y) ∧
    (∀ k, v.getD k 0 ≤ (l.foldl (fun v x => v.set x.toNat (v.getD x.toNat 0 + 1)) v).getD k 0) ∧ ∀ x ∈ l, 1 ≤ (l.foldl (fun v x => v.set x.toNat (v.getD x.toNat 0 + 1)) v).getD x.toNat 0
  | [], v, hv, _, h => ⟨hv, by simp, h, fun _ => Int.le_refl _, fun x hx => by simp at hx⟩
  | x :: l, v, hv, hl, h => by
    obtain ⟨x0, x1⟩ := hl x (by simp)
    have hx : x.toNat < v.length := by omega
    have hge : 0 ≤ v.getD x.toNat 0 := by
      rw [List.getD_eq_getElem?_getD, List.getElem?_eq_getElem hx]
      exact h _ (List.getElem_mem hx)
    have hsum : (v.set x.toNat (v.getD x.toNat 0 + 1)).sum = v.sum + 1 := sum_set v x.toNat hx
    obtain ⟨a, b, c, d, e⟩ := vs_fold n l (v.set x.toNat (v.getD x.toNat 0 + 1)) (by simpa using hv) (fun y hy => hl y (List.mem_cons_of_mem _ hy)) (fun y hy => by
      rcases List.mem_or_eq_of_mem_set hy with q | rfl
      · exact h y q
      · omega)
    rw [List.foldl_cons]
    have hself : (v.set x.toNat (v.getD x.toNat 0 + 1)).getD x.toNat 0 = v.getD x.toNat 0 + 1 := by
      rw [List.getD_eq_getElem?_getD, List.getElem?_set_self hx]; rfl
    refine ⟨a, by rw [b, hsum, List.length_cons]; omega, c, fun k => ?_, fun y hy => ?_⟩
    · refine Int.le_trans ?_ (d k)
      by_cases e : k = x.toNat
      · subst e; rw [hself]; omega
      · rw [List.getD_eq_getElem?_getD, List.getD_eq_getElem?_getD, List.getElem?_set_ne (Ne.symm e)]; exact Int.le_refl _
    · rcases List.mem_cons.1 hy with rfl | q
      · refine Int.le_trans ?_ (d _)
        rw [hself]; omega
      · exact e y q
where sum_set : ∀ (v : List Int) (k : Nat), k < v.length → (v.set k (v.getD k 0 + 1)).sum = v.sum + 1
  | [], k, h => by simp at h
  | y :: v, 0, _ => by simp; omega
  | y :: v, k + 1, h => by
    have := sum_set v k (by simpa using h)
    simp only [List.set_cons_succ, List.getD_cons_succ, List.sum_cons]
    rw [this]; omega
theorem sum_take : ∀ (l : List Int), (∀ y ∈ l, 0 ≤ y) → ∀ k, 0 ≤ (l.take k).sum ∧ (l.take k).sum ≤ l.sum
  | [], _, k => by simp
  | x :: l, h, 0 => by
    have := sum_take l (fun y hy => h y (List.mem_cons_of_mem _ hy)) l.length
    have h0 := h x (List.mem_cons_self ..)
    simp only [List.take_zero, List.sum_nil, List.sum_cons, List.take_length] at *; omega
  | x :: l, h, k + 1 => by
    have := sum_take l (fun y hy => h y (List.mem_cons_of_mem _ hy)) k
    have h0 := h x (List.mem_cons_self ..)
    simp only [List.take_succ_cons, List.sum_cons]; omega
theorem rep_sum (n : Nat) : (List.replicate n (0 : Int)).sum = 0 := by
  induction n with
  | zero => rfl
  | succ n ih => rw [List.replicate_succ, List.sum_cons, ih]; rfl
theorem vs_ok (n : Nat) (l : List Int) (h : ∀ x ∈ l, 0 ≤ x ∧ x < n) : (vsK n l).length = n ∧ (vsK n l).sum = l.length ∧ (∀ y ∈ vsK n l, 0 ≤ y) ∧ ∀ x ∈ l, 1 ≤ (vsK n l).getD x.toNat 0 := by
  obtain ⟨a, b, c, _, e⟩ := vs_fold n l (List.replicate n 0) (by simp) h (fun y hy => by rw [List.eq_of_mem_replicate hy]; exact Int.le_refl _)
  exact ⟨a, by unfold vsK; rw [b, rep_sum]; omega, c, e⟩
end Go.Proofs.Ytkkklpchkkdhfaa.pth
