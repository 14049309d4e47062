/-
  Orbits: letters on isomorphic surfaces; an orbit is closed under all letters, and is what words reach. Plain mathematics.
-/
import Derived.Test.YtgegkkbnmailaaaOm
namespace Go.Proofs.Ytgegkkbnmailaaa.orb
open Go.Proofs.Ytgegkkbnmailaaa.pm
set_option linter.unusedVariables false
set_option maxRecDepth 100000

theorem ren_thn {n : Nat} {X Y P : List Int} (h : Ren n X Y P) (lx : X.length = n) (lp : P.length = n) : thn X P = thn P Y := by
  refine list_eq n (by rw [thn_len]; exact lx) (by rw [thn_len]; exact lp) fun i hi => ?_
  rw [thn_at (by omega), thn_at (by omega)]
  exact (h.eq i hi).symm
theorem conj_inv {n : Nat} {X Y P : List Int} (x : Ok X) (y : Ok Y) (p : Ok P) (lx : X.length = n) (ly : Y.length = n) (lp : P.length = n) (h : thn X P = thn P Y) : thn (Inv X) P = thn P (Inv Y) := by
  have ix := Inv_ok x
  have lix : (Inv X).length = n := by rw [Inv_len]; exact lx
  have e1 : P = thn (Inv X) (thn P Y) := by rw [← h, ← thn_assoc ix (by rw [lix, lx]), Inv_thn_self x lx, id_thn lp]
  have o1 : Ok (thn (Inv X) P) := thn_ok ix p (by rw [lix, lp])
  have e2 : thn P (Inv Y) = thn (thn (Inv X) (thn P Y)) (Inv Y) := by rw [← e1]
  rw [e2, ← thn_assoc ix (by rw [lix, lp]), thn_assoc o1 (by rw [thn_len, lix, ly]), thn_Inv y ly, thn_id o1 (by rw [thn_len]; exact lix)]
theorem conj_thn {n : Nat} {X Y X' Y' P : List Int} (x : Ok X) (p : Ok P) (x' : Ok X') (lx : X.length = n) (lp : P.length = n) (lx' : X'.length = n) (ly : Y.length = n) (ly' : Y'.length = n) (h : thn X P = thn P X') (h' : thn Y P = thn P Y') : thn (thn X Y) P = thn P (thn X' Y') := by
  rw [thn_assoc x (by rw [lx, ly]), h', ← thn_assoc x (by rw [lx, lp]), h, thn_assoc p (by rw [lp, lx'])]
/-- Letters on isomorphic surfaces give isomorphic surfaces. -/
theorem let_iso {n : Nat} {R U R' U' ns : List Int} (h : Iso n R U R' U' ns) (s' : Sf n R' U') (c : UInt8) : Iso n (letS c (R, U)).1 (letS c (R, U)).2 (letS c (R', U')).1 (letS c (R', U')).2 ns := by
  have s := h.s
  have a1 := ren_thn h.r s.lr h.ln
  have a2 := ren_thn h.u s.lu h.ln
  have i1 := conj_inv s.r s'.r h.okn s.lr s'.lr h.ln a1
  have i2 := conj_inv s.u s'.u h.okn s.lu s'.lu h.ln a2
  have li1 : (Inv R).length = n := by rw [Inv_len]; exact s.lr
  have li1' : (Inv R').length = n := by rw [Inv_len]; exact s'.lr
  have li2 : (Inv U).length = n := by rw [Inv_len]; exact s.lu
  have li2' : (Inv U').length = n := by rw [Inv_len]; exact s'.lu
  have t := letS_sf s c
  have t' := letS_sf s' c
  unfold letS at t t' ⊢
  split
  · rename_i e
    rw [if_pos e] at t t'
    exact ⟨t, h.okn, h.ln, h.r, ren_of t.u t'.u h.okn t.lu t'.lu h.ln (conj_thn (Inv_ok s.r) h.okn (Inv_ok s'.r) li1 h.ln li1' s.lu s'.lu i1 a2)⟩
  · rename_i e
    rw [if_neg e] at t t'
    split
    · rename_i e2
      rw [if_pos e2] at t t'
      exact ⟨t, h.okn, h.ln, h.r, ren_of t.u t'.u h.okn t.lu t'.lu h.ln (conj_thn s.r h.okn s'.r s.lr h.ln s'.lr s.lu s'.lu a1 a2)⟩
    · rename_i e2
      rw [if_neg e2] at t t'
      split
      · rename_i e3
        rw [if_pos e3] at t t'
        exact ⟨t, h.okn, h.ln, ren_of t.r t'.r h.okn t.lr t'.lr h.ln i2, h.r⟩
      · rename_i e3
        rw [if_neg e3] at t t'
        exact ⟨t, h.okn, h.ln, h.u, ren_of t.u t'.u h.okn t.lu t'.lu h.ln i1⟩
theorem cn_let {n : Nat} {s : Sur} (h : Sf n s.1 s.2) (c : UInt8) : cn (letS c (cn s)) = cn (letS c s) := by
  obtain ⟨R, U⟩ := s
  obtain ⟨ns, i, s'⟩ := h.can_iso
  have e : cn (R, U) = can R U n := by unfold cn; rw [h.lr]
  rw [e]
  have j := let_iso i s' c
  have k := letS_sf h c
  have k' := letS_sf s' c
  have := j.can_eq k'
  unfold cn
  rw [k.lr, k'.lr]
  exact this
theorem cn_cn {n : Nat} {s : Sur} (h : Sf n s.1 s.2) : cn (cn s) = cn s := by
  obtain ⟨R, U⟩ := s
  obtain ⟨ns, i, s'⟩ := h.can_iso
  have e : cn (R, U) = can R U n := by unfold cn; rw [h.lr]
  rw [e]
  unfold cn
  rw [s'.lr]
  exact i.can_eq s'
theorem stp_cn_eq {n : Nat} {s : Sur} (h : Sf n s.1 s.2) (c : UInt8) : stp c (cn s) = cn (letS c s) := cn_let h c
theorem runS_append (v w : List UInt8) (s : Sur) : runS (v ++ w) s = runS w (runS v s) := by simp [runS, List.foldl_append]
/-- Words on surfaces with one form. -/
theorem cn_run {n : Nat} : ∀ (w : List UInt8) {s : Sur}, Sf n s.1 s.2 → cn (runS w (cn s)) = cn (runS w s) := by
  intro w
  have key : ∀ (w : List UInt8) (s t : Sur), Sf n s.1 s.2 → Sf n t.1 t.2 → cn s = cn t → cn (runS w s) = cn (runS w t) := by
    intro w
    induction w with
    | nil => intro s t _ _ e; exact e
    | cons c w ih =>
      intro s t hs ht e
      refine ih (letS c s) (letS c t) (letS_sf hs c) (letS_sf ht c) ?_
      rw [← cn_let hs c, ← cn_let ht c, e]
  intro s hs
  exact key w _ _ (cn_sf hs) hs (cn_cn hs)

theorem g_sub_len {α : Type} [DecidableEq α] : ∀ (l m : List α), l.Nodup → (∀ x ∈ l, x ∈ m) → l.length ≤ m.length := by
  intro l
  induction l with
  | nil => intros; simp
  | cons a t ih =>
    intro m hd hs
    have hd' := List.nodup_cons.1 hd
    have ha := hs a (by simp)
    have := ih (m.erase a) hd'.2 (fun x hx => (List.mem_erase_of_ne (fun (e : x = a) => hd'.1 (by rw [← e]; exact hx))).2 (hs x (by simp [hx])))
    rw [List.length_erase_of_mem ha] at this
    have : 0 < m.length := List.length_pos_of_mem ha
    simp
    omega
theorem g_sub_mem {α : Type} [DecidableEq α] {l m : List α} (hl : l.Nodup) (hs : ∀ x ∈ l, x ∈ m) (hlen : m.length ≤ l.length) {y : α} (hy : y ∈ m) : y ∈ l := by
  by_cases h : y ∈ l
  · exact h
  · have := g_sub_len (y :: l) m (List.nodup_cons.2 ⟨h, hl⟩) (fun x hx => by
      rcases List.mem_cons.1 hx with rfl | hx
      · exact hy
      · exact hs x hx)
    simp at this
    omega
theorem map_nodup {α β : Type} {f : α → β} : ∀ {l : List α}, l.Nodup → (∀ x ∈ l, ∀ y ∈ l, f x = f y → x = y) → (l.map f).Nodup
  | [], _, _ => by simp
  | a :: l, h, hf => by
    obtain ⟨h1, h2⟩ := List.nodup_cons.1 h
    rw [List.map_cons]
    refine List.nodup_cons.2 ⟨fun hm => ?_, map_nodup h2 (fun x hx y hy => hf x (List.mem_cons_of_mem _ hx) y (List.mem_cons_of_mem _ hy))⟩
    obtain ⟨y, hy, e⟩ := List.mem_map.1 hm
    have := hf a (by simp) y (List.mem_cons_of_mem _ hy) e.symm
    exact h1 (this ▸ hy)
/-- An injective map of a list into itself meets all of it. -/
theorem onto_self {α : Type} [DecidableEq α] {l : List α} {f : α → α} (hl : l.Nodup) (hf : ∀ x ∈ l, ∀ y ∈ l, f x = f y → x = y) (hm : ∀ x ∈ l, f x ∈ l) {y : α} (hy : y ∈ l) : ∃ x ∈ l, f x = y := by
  have := g_sub_mem (l := l.map f) (m := l) (map_nodup hl hf) (fun x hx => by obtain ⟨z, hz, rfl⟩ := List.mem_map.1 hx; exact hm z hz) (by simp) hy
  obtain ⟨x, hx, e⟩ := List.mem_map.1 this
  exact ⟨x, hx, e⟩

/-- What the search keeps of an orbit. -/
structure Oj (n : Nat) (s : Sur) (k : Nat) (q : LW) : Prop where
  oi : Oi n q
  head : q.1[0]? = some (cn s)
  word : ∀ (i : Nat) (w : List UInt8) (x : Sur), q.2[i]? = some w → q.1[i]? = some x → w.all isL = true ∧ x = cn (runS w s)
  nd : q.1.Nodup
  cl : ∀ (i : Nat) (x : Sur), i < k → q.1[i]? = some x → stp 84 x ∈ q.1 ∧ stp 83 x ∈ q.1
theorem Oj.start {n : Nat} {s : Sur} (h : Sf n s.1 s.2) : Oj n s 0 ([cn s], [[]]) :=
  ⟨Oi.start h, rfl, fun i w x hw hx => by
    cases i with
    | zero => simp at hw hx; subst hw; subst hx; exact ⟨rfl, rfl⟩
    | succ i => simp at hw, by simp, fun i x hi => absurd hi (by omega)⟩
theorem snoc_at {α : Type} {l : List α} {a x : α} {i : Nat} (h : (l ++ [a])[i]? = some x) : l[i]? = some x ∨ (i = l.length ∧ x = a) := by
  rw [List.getElem?_append] at h
  split at h
  · exact .inl h
  · rcases Nat.eq_zero_or_pos (i - l.length) with e | e
    · rw [e] at h; simp at h; exact .inr ⟨by omega, h.symm⟩
    · rw [List.getElem?_eq_none (by simp; omega)] at h; cases h
theorem Oj.add {n k : Nat} {s : Sur} {q : LW} (hs : Sf n s.1 s.2) (h : Oj n s k q) (hk : k < q.1.length) {c : UInt8} (hc : isL c = true) : Oj n s k (addL k c q) ∧ (∀ x, q.1[k]? = some x → stp c x ∈ (addL k c q).1) := by
  obtain ⟨x, w, h1, h2, h3, h4, h5, h6⟩ := h.oi.at hk
  have hoi := h.oi.add hk c
  by_cases hm : stp c x ∈ q.1
  · have e : addL k c q = q := by unfold addL; rw [h2, if_pos hm]
    rw [e]
    exact ⟨h, fun y hy => by rw [h1] at hy; obtain rfl := Option.some.inj hy; exact hm⟩
  · have e : addL k c q = (q.1 ++ [stp c x], q.2 ++ [w ++ [c]]) := by unfold addL; rw [h2, h5, if_neg hm]
    rw [e] at hoi ⊢
    obtain ⟨w1, w2⟩ := h.word k w x h4 h1
    have hl := h.oi.len
    refine ⟨⟨hoi, ?_, fun i v y hv hy => ?_, ?_, fun i y hi hy => ?_⟩, fun y hy => ?_⟩
    · show (q.1 ++ [stp c x])[0]? = _
      rw [List.getElem?_append_left (by omega)]; exact h.head
    · rcases snoc_at hv with a | ⟨a, rfl⟩ <;> rcases snoc_at hy with b | ⟨b, rfl⟩
      · exact h.word i v y a b
      · have := (List.getElem?_eq_some_iff.1 a).1; omega
      · have := (List.getElem?_eq_some_iff.1 b).1; omega
      · refine ⟨by simp [w1, hc], ?_⟩
        rw [runS_snoc, w2]
        exact stp_cn_eq (runS_sf w s hs) c
    · show (q.1 ++ [stp c x]).Nodup
      rw [List.nodup_append]
      refine ⟨h.nd, by simp, fun a ha b hb => ?_⟩
      simp at hb
      subst hb
      intro e'
      exact hm (e' ▸ ha)
    · rcases snoc_at hy with b | ⟨b, _⟩
      · obtain ⟨c1, c2⟩ := h.cl i y hi b
        exact ⟨List.mem_append_left _ c1, List.mem_append_left _ c2⟩
      · omega
    · rw [h1] at hy
      obtain rfl := Option.some.inj hy
      exact List.mem_append_right _ (by simp)
theorem Oj.two {n k : Nat} {s : Sur} {q : LW} (hs : Sf n s.1 s.2) (h : Oj n s k q) (hk : k < q.1.length) : Oj n s (k + 1) (two k q) := by
  obtain ⟨a1, a2⟩ := h.add hs hk (c := 84) (by decide)
  obtain ⟨r, er, _⟩ := addL_sub k 84 q
  have hk2 : k < (addL k 84 q).1.length := by rw [er]; simp; omega
  obtain ⟨b1, b2⟩ := a1.add hs hk2 (c := 83) (by decide)
  obtain ⟨r2, er2, _⟩ := addL_sub k 83 (addL k 84 q)
  refine ⟨b1.oi, b1.head, b1.word, b1.nd, fun i x hi hx => ?_⟩
  by_cases e : i = k
  · subst e
    have hq := List.getElem?_eq_getElem hk
    have hx1 : (addL i 84 q).1[i]? = some q.1[i] := by rw [er, List.getElem?_append_left hk]; exact hq
    have hx2 : (orb.two i q).1[i]? = some q.1[i] := by show (addL i 83 (addL i 84 q)).1[i]? = _; rw [er2, List.getElem?_append_left hk2]; exact hx1
    rw [hx2] at hx
    obtain rfl := Option.some.inj hx
    refine ⟨?_, b2 _ hx1⟩
    show _ ∈ (addL i 83 (addL i 84 q)).1
    rw [er2]
    exact List.mem_append_left _ (a2 _ hq)
  · exact b1.cl i x (by omega) hx
theorem orun_oj {n : Nat} {s : Sur} (hs : Sf n s.1 s.2) : ∀ (f k : Nat) (q q' : LW), Oj n s k q → orun f k q = some q' → Oj n s q'.1.length q'
  | 0, k, q, q', _, h => by simp [orun] at h
  | f + 1, k, q, q', hq, h => by
    unfold orun at h
    split at h
    · rename_i hk
      split at h
      · cases h
      · exact orun_oj hs f (k + 1) _ q' (hq.two hs hk) h
    · rename_i hk
      injection h with h
      subst h
      exact ⟨hq.oi, hq.head, hq.word, hq.nd, fun i x hi hx => hq.cl i x (by omega) hx⟩
theorem orb_oj {n : Nat} {s : Sur} {q : LW} (hs : Sf n s.1 s.2) (h : orb s = some q) : Oj n s q.1.length q := orun_oj hs 122 0 _ q (Oj.start hs) h
theorem nd_at {L : List Sur} (h : L.Nodup) {i j : Nat} {x : Sur} (hi : L[i]? = some x) (hj : L[j]? = some x) : i = j := by
  obtain ⟨h1, e1⟩ := List.getElem?_eq_some_iff.1 hi
  obtain ⟨h2, e2⟩ := List.getElem?_eq_some_iff.1 hj
  have hp := List.pairwise_iff_getElem.1 h
  rcases Nat.lt_trichotomy i j with q | q | q
  · exact absurd (e1.trans e2.symm) (hp i j h1 h2 q)
  · exact q
  · exact absurd (e2.trans e1.symm) (hp j i h2 h1 q)
theorem inL_isL {c : UInt8} (h : isL c = true) : isL (inL c) = true := by
  rcases isL_iff.1 h with e | e | e | e <;> simp [inL, isL, e]
theorem inL_inL {c : UInt8} (h : isL c = true) : inL (inL c) = c := by
  rcases isL_iff.1 h with e | e | e | e <;> (apply UInt8.toNat_inj.1; simp [inL, e])
theorem stp_back {n : Nat} {c : UInt8} (hc : isL c = true) {x : Sur} (hx : Sf n x.1 x.2) : stp (inL c) (stp c x) = cn x := by
  have : stp (inL c) (cn (letS c x)) = cn (letS (inL c) (letS c x)) := stp_cn_eq (letS_sf hx c) (inL c)
  rw [show stp c x = cn (letS c x) from rfl, this, letS_inv hx hc]
section
variable {n : Nat} {s : Sur} {q : LW} (hs : Sf n s.1 s.2) (h : Oj n s q.1.length q)
include hs h
theorem Oj.fix {x : Sur} (hx : x ∈ q.1) : cn x = x := by
  obtain ⟨i, hi, e⟩ := List.mem_iff_getElem.1 hx
  have hx' : q.1[i]? = some x := by rw [List.getElem?_eq_getElem hi, e]
  have hi2 : i < q.2.length := by rw [h.oi.len]; exact hi
  obtain ⟨_, w2⟩ := h.word i _ x (List.getElem?_eq_getElem hi2) hx'
  rw [w2]
  exact cn_cn (runS_sf _ s hs)
omit hs in
theorem Oj.step {c : UInt8} (hc : c = 84 ∨ c = 83) {x : Sur} (hx : x ∈ q.1) : stp c x ∈ q.1 := by
  obtain ⟨i, hi, e⟩ := List.mem_iff_getElem.1 hx
  obtain ⟨a, b⟩ := h.cl i x hi (by rw [List.getElem?_eq_getElem hi, e])
  rcases hc with rfl | rfl
  · exact a
  · exact b
theorem Oj.inj {c : UInt8} (hc : isL c = true) {x y : Sur} (hx : x ∈ q.1) (hy : y ∈ q.1) (e : stp c x = stp c y) : x = y := by
  have a := stp_back hc (h.oi.sf x hx)
  have b := stp_back hc (h.oi.sf y hy)
  rw [e, b, h.fix hs hx, h.fix hs hy] at a
  exact a.symm
theorem Oj.all {c : UInt8} (hc : isL c = true) {x : Sur} (hx : x ∈ q.1) : stp c x ∈ q.1 := by
  have key : ∀ d : UInt8, (d = 84 ∨ d = 83) → stp (inL d) x ∈ q.1 := fun d hd => by
    have hdl : isL d = true := by rcases hd with rfl | rfl <;> decide
    obtain ⟨y, hy, e⟩ := onto_self h.nd (f := stp d) (fun a ha b hb => h.inj hs hdl ha hb) (fun a ha => h.step hd ha) hx
    rw [← e, stp_back hdl (h.oi.sf y hy), h.fix hs hy]
    exact hy
  rcases isL_iff.1 hc with e | e | e | e
  · exact h.step (.inl (UInt8.toNat_inj.1 (by simpa using e))) hx
  · have := key 84 (.inl rfl)
    rwa [show inL 84 = c from UInt8.toNat_inj.1 (by simp [inL, e])] at this
  · exact h.step (.inr (UInt8.toNat_inj.1 (by simpa using e))) hx
  · have := key 83 (.inr rfl)
    rwa [show inL 83 = c from UInt8.toNat_inj.1 (by simp [inL, e])] at this
/-- What words reach lies in the orbit. -/
theorem Oj.reach : ∀ (w : List UInt8), w.all isL = true → cn (runS w s) ∈ q.1 := by
  have key : ∀ (w : List UInt8) (t : Sur), Sf n t.1 t.2 → cn t ∈ q.1 → w.all isL = true → cn (runS w t) ∈ q.1 := by
    intro w
    induction w with
    | nil => intro t _ ht _; exact ht
    | cons c w ih =>
      intro t hst ht hw
      simp only [List.all_cons, Bool.and_eq_true] at hw
      refine ih (letS c t) (letS_sf hst c) ?_ hw.2
      rw [← stp_cn_eq hst c]
      exact h.all hs hw.1 ht
  intro w hw
  refine key w s hs ?_ hw
  have := h.head
  exact List.mem_of_getElem? this
omit hs in
theorem Oj.from {x : Sur} (hx : x ∈ q.1) : ∃ w, w.all isL = true ∧ x = cn (runS w s) := by
  obtain ⟨i, hi, e⟩ := List.mem_iff_getElem.1 hx
  have hi2 : i < q.2.length := by rw [h.oi.len]; exact hi
  obtain ⟨w1, w2⟩ := h.word i _ x (List.getElem?_eq_getElem hi2) (by rw [List.getElem?_eq_getElem hi, e])
  exact ⟨_, w1, w2⟩
theorem Oj.mem {x : Sur} : x ∈ q.1 ↔ ∃ w, w.all isL = true ∧ x = cn (runS w s) :=
  ⟨h.from, fun ⟨w, h1, h2⟩ => h2 ▸ h.reach hs w h1⟩
end
theorem invW_isL {w : List UInt8} (h : w.all isL = true) : (invW w).all isL = true := by
  rw [List.all_eq_true] at *
  intro c hc
  unfold invW at hc
  rw [List.mem_reverse] at hc
  obtain ⟨d, hd, rfl⟩ := List.mem_map.1 hc
  exact inL_isL (h d hd)
/-- Two surfaces that a word relates have orbits of the same surfaces. -/
theorem orb_same {n : Nat} {s t : Sur} {q q' : LW} (hs : Sf n s.1 s.2) (ht : Sf n t.1 t.2) (h : orb s = some q) (h' : orb t = some q') {v : List UInt8} (hv : v.all isL = true) (e : cn t = cn (runS v s)) : ∀ x, x ∈ q.1 ↔ x ∈ q'.1 := by
  have J := orb_oj hs h
  have J' := orb_oj ht h'
  have sv := runS_sf v s hs
  intro x
  rw [J.mem hs, J'.mem ht]
  constructor
  · rintro ⟨w, h1, rfl⟩
    refine ⟨invW v ++ w, by simp [invW_isL hv, h1], ?_⟩
    rw [runS_append, ← cn_run w (runS_sf _ t ht), ← cn_run (invW v) ht, e, cn_run (invW v) sv, runS_inv v s hv hs, cn_run w hs]
  · rintro ⟨w, h1, rfl⟩
    refine ⟨v ++ w, by simp [hv, h1], ?_⟩
    rw [runS_append, ← cn_run w ht, e, cn_run w sv]
theorem orb_len_eq {n : Nat} {s t : Sur} {q q' : LW} (hs : Sf n s.1 s.2) (ht : Sf n t.1 t.2) (h : orb s = some q) (h' : orb t = some q') {v : List UInt8} (hv : v.all isL = true) (e : cn t = cn (runS v s)) : q.1.length = q'.1.length := by
  have m := orb_same hs ht h h' hv e
  have a := g_sub_len q.1 q'.1 (orb_oj hs h).nd (fun x hx => (m x).1 hx)
  have b := g_sub_len q'.1 q.1 (orb_oj ht h').nd (fun x hx => (m x).2 hx)
  omega
end Go.Proofs.Ytgegkkbnmailaaa.orb
