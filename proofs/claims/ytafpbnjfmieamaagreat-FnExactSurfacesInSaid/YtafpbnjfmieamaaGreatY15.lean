import Derived.Test.YtafpbnjfmieamaaGreatY13
import Derived.Test.YtafpbnjfmieamaaGreatY14
import Derived.Test.YtafpbnjfmieamaaGreatY10
import Derived.Test.YtafpbnjfmieamaaGreatY12
/-
  Orbits: letters on isomorphic surfaces; an orbit is closed under all letters, and is what words reach. Plain mathematics.
-/
namespace Go.Proofs.YtafpbnjfmieamaaGreat.orb
open Go.Proofs.YtafpbnjfmieamaaGreat.pm
set_option linter.unusedVariables false
set_option maxRecDepth 100000

theorem ren_thn {n : Nat} {X Y P : List Int} (h : Ren n X Y P) (lx : X.length = n) (lp : P.length = n) : thn X P = thn P Y := by
  refine list_eq n (by rw [thn_len]; exact lx) (by rw [thn_len]; exact lp) fun i hi => ?_
  rw [thn_at (by omega), thn_at (by omega)]
  exact (h.eq i hi).symm
theorem conj_inv {n : Nat} {X Y P : List Int} (x : Ok X) (y : Ok Y) (p : Ok P) (lx : X.length = n) (ly : Y.length = n) (lp : P.length = n) (h : thn X P = thn P Y) : thn (Inv X) P = thn P (Inv Y) := by
  have ix := Inv_ok x
  have lix : (Inv X).length = n := by rw [Inv_len]; exact lx
  have e1 : P = thn (Inv X) (thn P Y) := by rw [← h, ← thn_assoc ix (by rw [lix, lx]), Inv_thn_self x lx, id_thn lp]
  have o1 : Ok (thn (Inv X) P) := thn_ok ix p (by rw [lix, lp])
  have e2 : thn P (Inv Y) = thn (thn (Inv X) (thn P Y)) (Inv Y) := by rw [← e1]
  rw [e2, ← thn_assoc ix (by rw [lix, lp]), thn_assoc o1 (by rw [thn_len, lix, ly]), thn_Inv y ly, thn_id o1 (by rw [thn_len]; exact lix)]
theorem conj_thn {n : Nat} {X Y X' Y' P : List Int} (x : Ok X) (p : Ok P) (x' : Ok X') (lx : X.length = n) (lp : P.length = n) (lx' : X'.length = n) (ly : Y.length = n) (ly' : Y'.length = n) (h : thn X P = thn P X') (h' : thn Y P = thn P Y') : thn (thn X Y) P = thn P (thn X' Y') := by
  rw [thn_assoc x (by rw [lx, ly]), h', ← thn_assoc x (by rw [lx, lp]), h, thn_assoc p (by rw [lp, lx'])]
/-- Letters on isomorphic surfaces give isomorphic surfaces. -/
theorem let_iso {n : Nat} {R U R' U' ns : List Int} (h : Iso n R U R' U' ns) (s' : Sf n R' U') (c : UInt8) : Iso n (letS c (R, U)).1 (letS c (R, U)).2 (letS c (R', U')).1 (letS c (R', U')).2 ns := by
  have s := h.s
  have a1 := ren_thn h.r s.lr h.ln
  have a2 := ren_thn h.u s.lu h.ln
  have i1 := conj_inv s.r s'.r h.okn s.lr s'.lr h.ln a1
  have i2 := conj_inv s.u s'.u h.okn s.lu s'.lu h.ln a2
  have li1 : (Inv R).length = n := by rw [Inv_len]; exact s.lr
  have li1' : (Inv R').length = n := by rw [Inv_len]; exact s'.lr
  have li2 : (Inv U).length = n := by rw [Inv_len]; exact s.lu
  have li2' : (Inv U').length = n := by rw [Inv_len]; exact s'.lu
  have t := letS_sf s c
  have t' := letS_sf s' c
  unfold letS at t t' ⊢
  split
  · rename_i e
    rw [if_pos e] at t t'
    exact ⟨t, h.okn, h.ln, h.r, ren_of t.u t'.u h.okn t.lu t'.lu h.ln (conj_thn (Inv_ok s.r) h.okn (Inv_ok s'.r) li1 h.ln li1' s.lu s'.lu i1 a2)⟩
  · rename_i e
    rw [if_neg e] at t t'
    split
    · rename_i e2
      rw [if_pos e2] at t t'
      exact ⟨t, h.okn, h.ln, h.r, ren_of t.u t'.u h.okn t.lu t'.lu h.ln (conj_thn s.r h.okn s'.r s.lr h.ln s'.lr s.lu s'.lu a1 a2)⟩
    · rename_i e2
      rw [if_neg e2] at t t'
      split
      · rename_i e3
        rw [if_pos e3] at t t'
        exact ⟨t, h.okn, h.ln, ren_of t.r t'.r h.okn t.lr t'.lr h.ln i2, h.r⟩
      · rename_i e3
        rw [if_neg e3] at t t'
        exact ⟨t, h.okn, h.ln, h.u, ren_of t.u t'.u h.okn t.lu t'.lu h.ln i1⟩
theorem cn_let {n : Nat} {s : Sur} (h : Sf n s.1 s.2) (c : UInt8) : cn (letS c (cn s)) = cn (letS c s) := by
  obtain ⟨R, U⟩ := s
  obtain ⟨ns, i, s'⟩ := h.can_iso
  have e : cn (R, U) = can R U n := by unfold cn; rw [h.lr]
  rw [e]
  have j := let_iso i s' c
  have k := letS_sf h c
  have k' := letS_sf s' c
  have := j.can_eq k'
  unfold cn
  rw [k.lr, k'.lr]
  exact this
theorem cn_cn {n : Nat} {s : Sur} (h : Sf n s.1 s.2) : cn (cn s) = cn s := by
  obtain ⟨R, U⟩ := s
  obtain ⟨ns, i, s'⟩ := h.can_iso
  have e : cn (R, U) = can R U n := by unfold cn; rw [h.lr]
  rw [e]
  unfold cn
  rw [s'.lr]
  exact i.can_eq s'
theorem stp_cn_eq {n : Nat} {s : Sur} (h : Sf n s.1 s.2) (c : UInt8) : stp c (cn s) = cn (letS c s) := cn_let h c
theorem runS_append (v w : List UInt8) (s : Sur) : runS (v ++ w) s = runS w (runS v s) := by simp [runS, List.foldl_append]
/-- Words on surfaces with one form. -/
theorem cn_run {n : Nat} : ∀ (w : List UInt8) {s : Sur}, Sf n s.1 s.2 → cn (runS w (cn s)) = cn (runS w s) := by
  intro w
  have key : ∀ (w : List UInt8) (s t : Sur), Sf n s.1 s.2 → Sf n t.1 t.2 → cn s = cn t → cn (runS w s) = cn (runS w t) := by
    intro w
    induction w with
    | nil => intro s t _ _ e; exact e
    | cons c w ih =>
      intro s t hs ht e
      refine ih (letS c s) (letS c t) (letS_sf hs c) (letS_sf ht c) ?_
      rw [← cn_let hs c, ← cn_let ht c, e]
  intro s hs
  exact key w _ _ (cn_sf hs) hs (cn_cn hs)

theorem g_sub_len {α : Type} [DecidableEq α] : ∀ (l m : List α), l.Nodup → (∀ x ∈ l, x ∈ m) → l.length ≤ m.length := by
  intro l
  induction l with
  | nil => intros; simp
  | cons a t ih =>
    intro m hd hs
    have hd' := List.nodup_cons.1 hd
    have ha := hs a (by simp)
    have := ih (m.erase a) hd'.2 (fun x hx => (List.mem_erase_of_ne (fun (e : x = a) => hd'.1 (by rw [← e]; exact hx))).2 (hs x (by simp [hx])))
    rw [List.length_erase_of_mem ha] at this
    have : 0 < m.length := List.length_pos_of_mem ha
    simp
    omega
theorem g_sub_mem {α : Type} [DecidableEq α] {l m : List α} (hl : l.Nodup) (hs : ∀ x ∈ l, x ∈ m) (hlen : m.length ≤ l.length) {y : α} (hy : y ∈ m) : y ∈ l := by
  by_cases h : y ∈ l
  · exact h
  · have := g_sub_len (y :: l) m (List.nodup_cons.2 ⟨h, hl⟩) (fun x hx => by
      rcases List.mem_cons.1 hx with rfl | hx
      · exact hy
      · exact hs x hx)
    simp at this
    omega
theorem map_nodup {α β : Type} {f : α → β} : ∀ {l : List α}, l.Nodup → (∀ x ∈ l, ∀ y ∈ l, f x = f y → x = y) → (l.map f).Nodup
  | [], _, _ => by simp
  | a :: l, h, hf => by
    obtain ⟨h1, h2⟩ := List.nodup_cons.1 h
    rw [List.map_cons]
    refine List.nodup_cons.2 ⟨fun hm => ?_, map_nodup h2 (fun x hx y hy => hf x (List.mem_cons_of_mem _ hx) y (List.mem_cons_of_mem _ hy))⟩
    obtain ⟨y, hy, e⟩ := List.mem_map.1 hm
    have := hf a (by simp) y (List.mem_cons_of_mem _ hy) e.symm
    exact h1 (this ▸ hy)
/-- An injective map of a list into itself meets all of it. -/
theorem onto_self {α : Type} [DecidableEq α] {l : List α} {f : α → α} (hl : l.Nodup) (hf : ∀ x ∈ l, ∀ y ∈ l, f x = f y → x = y) (hm : ∀ x ∈ l, f x ∈ l) {y : α} (hy : y ∈ l) : ∃ x ∈ l, f x = y := by
  have := g_sub_mem (l := l.map f) (m := l) (map_nodup hl hf) (fun x hx => by obtain ⟨z, hz, rfl⟩ := List.mem_map.1 hx; exact hm z hz) (by simp) hy
  obtain ⟨x, hx, e⟩ := List.mem_map.1 this
  exact ⟨x, hx, e⟩

/-- What the search keeps of an orbit. -/
structure Oj (n : Nat) (s : Sur) (k : Nat) (q : LW) : Prop where
  oi : Oi n q
  head : q.1[0]? = some (cn s)
  word : ∀ (i : Nat) (w : List UInt8) (x : Sur), q.2[i]? = some w → q.1[i]? = some x → w.all isL = true ∧ x = cn (runS w s)
  nd : q.1.Nodup
  cl : ∀ (i : Nat) (x : Sur), i < k → q.1[i]? = some x → stp 84 x ∈ q.1 ∧ stp 83 x ∈ q.1
theorem Oj.start {n : Nat} {s : Sur} (h : Sf n s.1 s.2) : Oj n s 0 ([cn s], [[]]) :=
  ⟨Oi.start h, rfl, fun i w x hw hx => by
    cases i with
    | zero => simp at hw hx; subst hw; subst hx; exact ⟨rfl, rfl⟩
    | succ i => simp at hw, by simp, fun i x hi => absurd hi (by omega)⟩
theorem snoc_at {α : Type} {l : List α} {a x : α} {i : Nat} (h : (l ++ [a])[i]? = some x) : l[i]? = some x ∨ (i = l.length ∧ x = a) := by
  rw [List.getElem?_append] at h
  split at h
  · exact .inl h
  · rcases Nat.eq_zero_or_pos (i - l.length) with e | e
    · rw [e] at h; simp at h; exact .inr ⟨by omega, h.symm⟩
    · rw [List.getElem?_eq_none (by simp; omega)] at h; cases h
theorem Oj.add {n k : Nat} {s : Sur} {q : LW} (hs : Sf n s.1 s.2) (h : Oj n s k q) (hk : k < q.1.length) {c : UInt8} (hc : isL c = true) : Oj n s k (addL k c q) ∧ (∀ x, q.1[k]? = some x → stp c x ∈ (addL k c q).1) := by
  obtain ⟨x, w, h1, h2, h3, h4, h5, h6⟩ := h.oi.at hk
  have hoi := h.oi.add hk c
  by_cases hm : stp c x ∈ q.1
  · have e : addL k c q = q := by unfold addL; rw [h2, if_pos hm]
    rw [e]
    exact ⟨h, fun y hy => by rw [h1] at hy; obtain rfl := Option.some.inj hy; exact hm⟩
  · have e : addL k c q = (q.1 ++ [stp c x], q.2 ++ [w ++ [c]]) := by unfold addL; rw [h2, h5, if_neg hm]
    rw [e] at hoi ⊢
    obtain ⟨w1, w2⟩ := h.word k w x h4 h1
    have hl := h.oi.len
    refine ⟨⟨hoi, ?_, fun i v y hv hy => ?_, ?_, fun i y hi hy => ?_⟩, fun y hy => ?_⟩
    · show (q.1 ++ [stp c x])[0]? = _
      rw [List.getElem?_append_left (by omega)]; exact h.head
    · rcases snoc_at hv with a | ⟨a, rfl⟩ <;> rcases snoc_at hy with b | ⟨b, rfl⟩
      · exact h.word i v y a b
      · have := (List.getElem?_eq_some_iff.1 a).1; omega
      · have := (List.getElem?_eq_some_iff.1 b).1; omega
      · refine ⟨by simp [w1, hc], ?_⟩
        rw [runS_snoc, w2]
        exact stp_cn_eq (runS_sf w s hs) c
    · show (q.1 ++ [stp c x]).Nodup
      rw [List.nodup_append]
      refine ⟨h.nd, by simp, fun a ha b hb => ?_⟩
      simp at hb
      subst hb
      intro e'
      exact hm (e' ▸ ha)
    · rcases snoc_at hy with b | ⟨b, _⟩
      · obtain ⟨c1, c2⟩ := h.cl i y hi b
        exact ⟨List.mem_append_left _ c1, List.mem_append_left _ c2⟩
      · omega
    · rw [h1] at hy
      obtain rfl := Option.some.inj hy
      exact List.mem_append_right _ (by simp)
theorem Oj.two {n k : Nat} {s : Sur} {q : LW} (hs : Sf n s.1 s.2) (h : Oj n s k q) (hk : k < q.1.length) : Oj n s (k + 1) (two k q) := by
  obtain ⟨a1, a2⟩ := h.add hs hk (c := 84) (by decide)
  obtain ⟨r, er, _⟩ := addL_sub k 84 q
  have hk2 : k < (addL k 84 q).1.length := by rw [er]; simp; omega
  obtain ⟨b1, b2⟩ := a1.add hs hk2 (c := 83) (by decide)
  obtain ⟨r2, er2, _⟩ := addL_sub k 83 (addL k 84 q)
  refine ⟨b1.oi, b1.head, b1.word, b1.nd, fun i x hi hx => ?_⟩
  by_cases e : i = k
  · subst e
    have hq := List.getElem?_eq_getElem hk
    have hx1 : (addL i 84 q).1[i]? = some q.1[i] := by rw [er, List.getElem?_append_left hk]; exact hq
    have hx2 : (orb.two i q).1[i]? = some q.1[i] := by show (addL i 83 (addL i 84 q)).1[i]? = _; rw [er2, List.getElem?_append_left hk2]; exact hx1
    rw [hx2] at hx
    obtain rfl := Option.some.inj hx
    refine ⟨?_, b2 _ hx1⟩
    show _ ∈ (addL i 83 (addL i 84 q)).1
    rw [er2]
    exact List.mem_append_left _ (a2 _ hq)
  · exact b1.cl i x (by omega) hx
theorem orun_oj {n : Nat} {s : Sur} (hs : Sf n s.1 s.2) : ∀ (f k : Nat) (q q' : LW), Oj n s k q → orun f k q = some q' → Oj n s q'.1.length q'
  | 0, k, q, q', _, h => by simp [orun] at h
  | f + 1, k, q, q', hq, h => by
    unfold orun at h
    split at h
    · rename_i hk
      split at h
      · cases h
      · exact orun_oj hs f (k + 1) _ q' (hq.two hs hk) h
    · rename_i hk
      injection h with h
      subst h
      exact ⟨hq.oi, hq.head, hq.word, hq.nd, fun i x hi hx => hq.cl i x (by omega) hx⟩
theorem orb_oj {n : Nat} {s : Sur} {q : LW} (hs : Sf n s.1 s.2) (h : orb s = some q) : Oj n s q.1.length q := orun_oj hs 122 0 _ q (Oj.start hs) h
theorem nd_at {L : List Sur} (h : L.Nodup) {i j : Nat} {x : Sur} (hi : L[i]? = some x) (hj : L[j]? = some x) : i = j := by
  obtain ⟨h1, e1⟩ := List.getElem?_eq_some_iff.1 hi
  obtain ⟨h2, e2⟩ := List.getElem?_eq_some_iff.1 hj
  have hp := List.pairwise_iff_getElem.1 h
  rcases Nat.lt_trichotomy i j with q | q | q
  · exact absurd (e1.trans e2.symm) (hp i j h1 h2 q)
  · exact q
  · exact absurd (e2.trans e1.symm) (hp j i h2 h1 q)
theorem inL_isL {c : UInt8} (h : isL c = true) : isL (inL c) = true := by
  rcases isL_iff.1 h with e | e | e | e <;> simp [inL, isL, e]
theorem inL_inL {c : UInt8} (h : isL c = true) : inL (inL c) = c := by
  rcases isL_iff.1 h with e | e | e | e <;> (apply UInt8.toNat_inj.1; simp [inL, e])
theorem stp_back {n : Nat} {c : UInt8} (hc : isL c = true) {x : Sur} (hx : Sf n x.1 x.2) : stp (inL c) (stp c x) = cn x := by
  have : stp (inL c) (cn (letS c x)) = cn (letS (inL c) (letS c x)) := stp_cn_eq (letS_sf hx c) (inL c)
  rw [show stp c x = cn (letS c x) from rfl, this, letS_inv hx hc]
section
variable {n : Nat} {s : Sur} {q : LW} (hs : Sf n s.1 s.2) (h : Oj n s q.1.length q)
include hs h
theorem Oj.fix {x : Sur} (hx : x ∈ q.1) : cn x = x := by
  obtain ⟨i, hi, e⟩ := List.mem_iff_getElem.1 hx
  have hx' : q.1[i]? = some x := by rw [List.getElem?_eq_getElem hi, e]
  have hi2 : i < q.2.length := by rw [h.oi.len]; exact hi
  obtain ⟨_, w2⟩ := h.word i _ x (List.getElem?_eq_getElem hi2) hx'
  rw [w2]
  exact cn_cn (runS_sf _ s hs)
omit hs in
theorem Oj.step {c : UInt8} (hc : c = 84 ∨ c = 83) {x : Sur} (hx : x ∈ q.1) : stp c x ∈ q.1 := by
  obtain ⟨i, hi, e⟩ := List.mem_iff_getElem.1 hx
  obtain ⟨a, b⟩ := h.cl i x hi (by rw [List.getElem?_eq_getElem hi, e])
  rcases hc with rfl | rfl
  · exact a
  · exact b
theorem Oj.inj {c : UInt8} (hc : isL c = true) {x y : Sur} (hx : x ∈ q.1) (hy : y ∈ q.1) (e : stp c x = stp c y) : x = y := by
  have a := stp_back hc (h.oi.sf x hx)
  have b := stp_back hc (h.oi.sf y hy)
  rw [e, b, h.fix hs hx, h.fix hs hy] at a
  exact a.symm
theorem Oj.all {c : UInt8} (hc : isL c = true) {x : Sur} (hx : x ∈ q.1) : stp c x ∈ q.1 := by
  have key : ∀ d : UInt8, (d = 84 ∨ d = 83) → stp (inL d) x ∈ q.1 := fun d hd => by
    have hdl : isL d = true := by rcases hd with rfl | rfl <;> decide
    obtain ⟨y, hy, e⟩ := onto_self h.nd (f := stp d) (fun a ha b hb => h.inj hs hdl ha hb) (fun a ha => h.step hd ha) hx
    rw [← e, stp_back hdl (h.oi.sf y hy), h.fix hs hy]
    exact hy
  rcases isL_iff.1 hc with e | e | e | e
  · exact h.step (.inl (UInt8.toNat_inj.1 (by simpa using e))) hx
  · have := key 84 (.inl rfl)
    rwa [show inL 84 = c from UInt8.toNat_inj.1 (by simp [inL, e])] at this
  · exact h.step (.inr (UInt8.toNat_inj.1 (by simpa using e))) hx
  · have := key 83 (.inr rfl)
    rwa [show inL 83 = c from UInt8.toNat_inj.1 (by simp [inL, e])] at this
/-- What words reach lies in the orbit. -/
theorem Oj.reach : ∀ (w : List UInt8), w.all isL = true → cn (runS w s) ∈ q.1 := by
  have key : ∀ (w : List UInt8) (t : Sur), Sf n t.1 t.2 → cn t ∈ q.1 → w.all isL = true → cn (runS w t) ∈ q.1 := by
    intro w
    induction w with
    | nil => intro t _ ht _; exact ht
    | cons c w ih =>
      intro t hst ht hw
      simp only [List.all_cons, Bool.and_eq_true] at hw
      refine ih (letS c t) (letS_sf hst c) ?_ hw.2
      rw [← stp_cn_eq hst c]
      exact h.all hs hw.1 ht
  intro w hw
  refine key w s hs ?_ hw
  have := h.head
  exact List.mem_of_getElem? this
omit hs in
theorem Oj.from {x : Sur} (hx : x ∈ q.1) : ∃ w, w.all isL = true ∧ x = cn (runS w s) := by
  obtain ⟨i, hi, e⟩ := List.mem_iff_getElem.1 hx
  have hi2 : i < q.2.length := by rw [h.oi.len]; exact hi
  obtain ⟨w1, w2⟩ := h.word i _ x (List.getElem?_eq_getElem hi2) (by rw [List.getElem?_eq_getElem hi, e])
  exact ⟨_, w1, w2⟩
theorem Oj.mem {x : Sur} : x ∈ q.1 ↔ ∃ w, w.all isL = true ∧ x = cn (runS w s) :=
  ⟨h.from, fun ⟨w, h1, h2⟩ => h2 ▸ h.reach hs w h1⟩
end
theorem invW_isL {w : List UInt8} (h : w.all isL = true) : (invW w).all isL = true := by
  rw [List.all_eq_true] at *
  intro c hc
  unfold invW at hc
  rw [List.mem_reverse] at hc
  obtain ⟨d, hd, rfl⟩ := List.mem_map.1 hc
  exact inL_isL (h d hd)
/-- Two surfaces that a word relates have orbits of the same surfaces. -/
theorem orb_same {n : Nat} {s t : Sur} {q q' : LW} (hs : Sf n s.1 s.2) (ht : Sf n t.1 t.2) (h : orb s = some q) (h' : orb t = some q') {v : List UInt8} (hv : v.all isL = true) (e : cn t = cn (runS v s)) : ∀ x, x ∈ q.1 ↔ x ∈ q'.1 := by
  have J := orb_oj hs h
  have J' := orb_oj ht h'
  have sv := runS_sf v s hs
  intro x
  rw [J.mem hs, J'.mem ht]
  constructor
  · rintro ⟨w, h1, rfl⟩
    refine ⟨invW v ++ w, by simp [invW_isL hv, h1], ?_⟩
    rw [runS_append, ← cn_run w (runS_sf _ t ht), ← cn_run (invW v) ht, e, cn_run (invW v) sv, runS_inv v s hv hs, cn_run w hs]
  · rintro ⟨w, h1, rfl⟩
    refine ⟨v ++ w, by simp [hv, h1], ?_⟩
    rw [runS_append, ← cn_run w ht, e, cn_run w sv]
theorem orb_len_eq {n : Nat} {s t : Sur} {q q' : LW} (hs : Sf n s.1 s.2) (ht : Sf n t.1 t.2) (h : orb s = some q) (h' : orb t = some q') {v : List UInt8} (hv : v.all isL = true) (e : cn t = cn (runS v s)) : q.1.length = q'.1.length := by
  have m := orb_same hs ht h h' hv e
  have a := g_sub_len q.1 q'.1 (orb_oj hs h).nd (fun x hx => (m x).1 hx)
  have b := g_sub_len q'.1 q.1 (orb_oj ht h').nd (fun x hx => (m x).2 hx)
  omega
end Go.Proofs.YtafpbnjfmieamaaGreat.orb

/-
  Few squares: there are at most 26 canonical forms with four squares or fewer, so their orbits are found. Plain mathematics.
-/
namespace Go.Proofs.YtafpbnjfmieamaaGreat.orb
open Go.Proofs.YtafpbnjfmieamaaGreat.pm
set_option linter.unusedVariables false
set_option maxRecDepth 100000

/-- All lists of k numbers below m. -/
def tup (m : Nat) : Nat → List (List Int)
  | 0 => [[]]
  | k + 1 => (rng m).flatMap fun x => (tup m k).map fun l => x :: l
theorem mem_tup {m : Nat} : ∀ {k : Nat} {l : List Int}, l.length = k → (∀ x ∈ l, 0 ≤ x ∧ x < m) → l ∈ tup m k
  | 0, l, h, _ => by
    have := List.eq_nil_of_length_eq_zero h
    subst this
    simp [tup]
  | k + 1, l, h, hx => by
    cases l with
    | nil => simp at h
    | cons a l =>
      unfold tup
      refine List.mem_flatMap.2 ⟨a, mem_rng.2 (hx a (by simp)), List.mem_map.2 ⟨l, mem_tup (by simpa using h) (fun x q => hx x (List.mem_cons_of_mem _ q)), rfl⟩⟩
def prm (n : Nat) : List (List Int) := (tup n n).filter okB
theorem mem_prm {n : Nat} {l : List Int} (h : Ok l) (hl : l.length = n) : l ∈ prm n := by
  refine List.mem_filter.2 ⟨mem_tup hl (fun x hx => ?_), h.b⟩
  obtain ⟨i, hi, rfl⟩ := List.mem_iff_getElem.1 hx
  have h1 := h.lo i hi; have h2 := h.hi i hi
  rw [List.getD_eq_getElem?_getD, List.getElem?_eq_getElem hi, Option.getD_some] at h1 h2
  omega
/-- The canonical forms with n squares. -/
def frm (n : Nat) : List Sur := (prm n).flatMap fun R => ((prm n).filter fun U => transB R U && decide (cn (R, U) = (R, U))).map fun U => (R, U)
theorem mem_frm {n : Nat} {x : Sur} (h : Sf n x.1 x.2) (hc : cn x = x) : x ∈ frm n := by
  obtain ⟨R, U⟩ := x
  refine List.mem_flatMap.2 ⟨R, mem_prm h.r h.lr, List.mem_map.2 ⟨U, List.mem_filter.2 ⟨mem_prm h.u h.lu, ?_⟩, rfl⟩⟩
  have ht : transB R U = true := transB_iff.2 (by rw [h.lr]; exact h)
  simp [ht, hc]
set_option maxRecDepth 100000 in
theorem frm_few : ∀ n : Fin 5, (frm n.val).length ≤ 26 := by decide +kernel
theorem few_len {n k : Nat} {s : Sur} {q : LW} (hs : Sf n s.1 s.2) (hn : n ≤ 4) (h : Oj n s k q) : q.1.length ≤ 26 := by
  refine Nat.le_trans (g_sub_len q.1 (frm n) h.nd (fun x hx => ?_)) (frm_few ⟨n, by omega⟩)
  obtain ⟨i, hi, e⟩ := List.mem_iff_getElem.1 hx
  have hi2 : i < q.2.length := by rw [h.oi.len]; exact hi
  obtain ⟨_, w2⟩ := h.word i _ x (List.getElem?_eq_getElem hi2) (by rw [List.getElem?_eq_getElem hi, e])
  exact mem_frm (h.oi.sf x hx) (by rw [w2]; exact cn_cn (runS_sf _ s hs))
/-- The search ends. -/
theorem orun_some {n : Nat} {s : Sur} (hs : Sf n s.1 s.2) (hn : n ≤ 4) : ∀ (f k : Nat) (q : LW), Oj n s k q → k ≤ q.1.length → 27 ≤ f + k → ∃ q', orun f k q = some q'
  | 0, k, q, h, hk, hf => by have := few_len hs hn h; omega
  | f + 1, k, q, h, hk, hf => by
    unfold orun
    by_cases h1 : k < q.1.length
    · rw [if_pos h1]
      have h2 := h.two hs h1
      have := few_len hs hn h2
      rw [if_neg (by omega)]
      obtain ⟨r, e, _⟩ := addL_sub k 84 q
      obtain ⟨r2, e2, _⟩ := addL_sub k 83 (addL k 84 q)
      refine orun_some hs hn f (k + 1) _ h2 ?_ (by omega)
      show _ ≤ (addL k 83 (addL k 84 q)).1.length
      rw [e2, e]
      simp; omega
    · rw [if_neg h1]
      exact ⟨q, rfl⟩
theorem orb_few {n : Nat} {s : Sur} (hs : Sf n s.1 s.2) (hn : n ≤ 4) : ∃ q, orb s = some q ∧ q.1.length ≤ 26 := by
  obtain ⟨q, e⟩ := orun_some hs hn 122 0 _ (Oj.start hs) (Nat.zero_le _) (by omega)
  exact ⟨q, e, few_len hs hn (orb_oj hs e)⟩
end Go.Proofs.YtafpbnjfmieamaaGreat.orb

/-
  All surfaces with few squares: the permutations in order, the list of forms into which each form is put at its place; that it holds every form once, in order. Plain mathematics.
-/
namespace Go.Proofs.YtafpbnjfmieamaaGreat.lst
open Go.Proofs.YtafpbnjfmieamaaGreat.pm Go.Proofs.YtafpbnjfmieamaaGreat.orb
set_option linter.unusedVariables false
set_option maxRecDepth 100000

/-- One round of the list of permutations: each is lengthened by what it has not yet. -/
def prmNext (n : Nat) (L : List (List Int)) : List (List Int) := L.flatMap fun p => ((rng n).filter fun x => !decide (x ∈ p)).map fun x => p ++ [x]
def prmS (n : Nat) : Nat → List (List Int)
  | 0 => [[]]
  | k + 1 => prmNext n (prmS n k)
/-- A form put at its place, if it is not there yet. -/
def insL : List Sur → Sur → Bool → List Sur
  | [], s, d => if d then [] else [s]
  | x :: t, s, d => if !(d || decide (x = s)) && bef s x then s :: x :: insL t s true else x :: insL t s (d || decide (x = s))
/-- One pair: what it does to the list. -/
def putP (n : Nat) (acc : List Sur) (r u : List Int) : List Sur := if transB r u then insL acc (can r u n) false else acc
def rowP (n : Nat) (acc : List Sur) (r : List Int) (U : List (List Int)) : List Sur := U.foldl (fun a u => putP n a r u) acc
def allP (n : Nat) (acc : List Sur) (R U : List (List Int)) : List Sur := R.foldl (fun a r => rowP n a r U) acc
/-- All surfaces with n squares. -/
def swL (n : Nat) : List Sur := allP n [] (prmS n n) (prmS n n)
def swF (n : Int) : List Sur := if 1 ≤ n ∧ n ≤ 4 then swL n.toNat else []

/-- In ascending order, each once. -/
def asc : List Sur → Bool
  | [] => true
  | [_] => true
  | a :: b :: t => bef a b && asc (b :: t)
def numS : Nat → Nat
  | 1 => 1
  | 2 => 3
  | 3 => 7
  | 4 => 26
  | _ => 0
set_option maxRecDepth 100000 in
theorem sw_kernel : ∀ n : Fin 4, (swL (n.val + 1)).length = numS (n.val + 1) ∧ asc (swL (n.val + 1)) = true ∧ ((swL (n.val + 1)).all fun x => transB x.1 x.2 && decide (x.1.length = n.val + 1) && decide (cn x = x)) = true ∧ ((frm (n.val + 1)).all fun x => decide (x ∈ swL (n.val + 1))) = true := by decide +kernel
/-- What is said of the list. -/
structure Sw (n : Nat) : Prop where
  len : (swL n).length = numS n
  srt : asc (swL n) = true
  mem : ∀ x, x ∈ swL n ↔ Sf n x.1 x.2 ∧ cn x = x
theorem sw_ok {n : Nat} (h1 : 1 ≤ n) (h2 : n ≤ 4) : Sw n := by
  obtain ⟨a, b, c, d⟩ := sw_kernel ⟨n - 1, by omega⟩
  rw [show n - 1 + 1 = n by omega] at a b c d
  refine ⟨a, b, fun x => ⟨fun hx => ?_, fun ⟨hs, hc⟩ => ?_⟩⟩
  · have := List.all_eq_true.1 c x hx
    simp only [Bool.and_eq_true, decide_eq_true_eq] at this
    obtain ⟨⟨t1, t2⟩, t3⟩ := this
    refine ⟨?_, t3⟩
    have := transB_iff.1 t1
    rwa [t2] at this
  · have := List.all_eq_true.1 d x (mem_frm hs hc)
    simpa using this
theorem asc_pair : ∀ {L : List Sur}, asc L = true → L.Pairwise fun a b => bef a b = true
  | [], _ => List.Pairwise.nil
  | [a], _ => List.pairwise_singleton _ _
  | a :: b :: t, h => by
    simp only [asc, Bool.and_eq_true] at h
    have ih := asc_pair (L := b :: t) h.2
    refine List.pairwise_cons.2 ⟨fun c hc => ?_, ih⟩
    rcases List.mem_cons.1 hc with rfl | q
    · exact h.1
    · exact bef_trans h.1 ((List.pairwise_cons.1 ih).1 c q)
theorem Sw.nd {n : Nat} (h : Sw n) : (swL n).Nodup :=
  (asc_pair h.srt).imp fun {a b} hab e => by subst e; rw [bef_irr] at hab; cases hab
theorem Sw.num {n : Nat} (h : Sw n) : (swL n).length ≤ 26 := by
  rw [h.len]
  unfold numS
  split <;> omega
end Go.Proofs.YtafpbnjfmieamaaGreat.lst

/-
  Lists of surfaces whose rows lie in blocks of their own, in any order: items (blocks, headers, surface); insertion.
-/
namespace Go.Proofs.YtafpbnjfmieamaaGreat.lst
open Go.ChangeShapes Go.WideShapes Go.ChangeAt Go.RowKit
open Go.Proofs.YtafpbnjfmieamaaGreat.mem Go.Proofs.YtafpbnjfmieamaaGreat.ints Go.Proofs.YtafpbnjfmieamaaGreat.arr Go.Proofs.YtafpbnjfmieamaaGreat.pm Go.Proofs.YtafpbnjfmieamaaGreat.sf Go.Proofs.YtafpbnjfmieamaaGreat.orb
set_option linter.unusedVariables false
set_option maxRecDepth 100000

/-- The blocks of the two rows, their headers, the surface. -/
abbrev Item := (Nat × Nat) × (Value × Value) × Sur
def sOf (z : Item) : Sur := z.2.2
def bsOf (Z : List Item) : List Nat := Z.flatMap fun z => [z.1.1, z.1.2]
def hsOf (Z : List Item) : List Value := Z.flatMap fun z => [z.2.1.1, z.2.1.2]
structure Pk (w : World) (lo hi : Nat) (ex : Nat → Prop) (Z : List Item) : Prop where
  top : hi ≤ w.heap.size
  each : ∀ z ∈ Z, Rw1 w lo hi ex z.1.1 z.2.1.1 (sOf z).1 ∧ Rw1 w lo hi ex z.1.2 z.2.1.2 (sOf z).2
  nd : (bsOf Z).Nodup
theorem Pk.perm {w : World} {lo hi : Nat} {ex : Nat → Prop} {Z Z' : List Item} (h : Pk w lo hi ex Z) (p : Z.Perm Z') : Pk w lo hi ex Z' :=
  ⟨h.top, fun z hz => h.each z (p.mem_iff.2 hz), (p.flatMap_right _).nodup_iff.1 h.nd⟩
theorem Pk.nil (w : World) (lo hi : Nat) (ex : Nat → Prop) (h : hi ≤ w.heap.size) : Pk w lo hi ex [] := ⟨h, fun z hz => (by simp at hz), List.nodup_nil⟩
theorem Pk.sub {w : World} {lo hi : Nat} {ex : Nat → Prop} {Z Y : List Item} (h : Pk w lo hi ex (Z ++ Y)) : Pk w lo hi ex Z := by
  refine ⟨h.top, fun z hz => h.each z (List.mem_append_left _ hz), ?_⟩
  have := h.nd
  unfold bsOf at this ⊢
  rw [List.flatMap_append] at this
  exact (List.nodup_append.1 this).1
theorem Pk.keep {w w' : World} {lo hi : Nat} {ex : Nat → Prop} {Z : List Item} (h : Pk w lo hi ex Z) (hz : w.heap.size ≤ w'.heap.size) (hk : ∀ b, lo ≤ b → b < hi → ¬ ex b → w'.heap[b]? = w.heap[b]?) : Pk w' lo hi ex Z :=
  ⟨Nat.le_trans h.top hz, fun z q => by
    obtain ⟨a, b⟩ := h.each z q
    exact ⟨a.keep (hk _ a.lo_ a.hi_ a.ex_) hz, b.keep (hk _ b.lo_ b.hi_ b.ex_) hz⟩, h.nd⟩
theorem Pk.to {w : World} {lo hi lo' hi' : Nat} {ex ex' : Nat → Prop} {Z : List Item} (h : Pk w lo hi ex Z) (h1 : lo' ≤ lo) (h2 : hi ≤ hi') (h3 : hi' ≤ w.heap.size)
    (he : ∀ b, lo ≤ b → b < hi → ¬ ex b → ¬ ex' b) : Pk w lo' hi' ex' Z :=
  ⟨h3, fun z q => by
    obtain ⟨a, b⟩ := h.each z q
    exact ⟨a.to h1 h2 (he _ a.lo_ a.hi_ a.ex_), b.to h1 h2 (he _ b.lo_ b.hi_ b.ex_)⟩, h.nd⟩
theorem hs_len : ∀ Z : List Item, (hsOf Z).length = Z.length * 2
  | [] => rfl
  | z :: t => by
    have := hs_len t
    unfold hsOf at this ⊢
    rw [List.flatMap_cons, List.length_append, this, List.length_cons]
    simp; omega
theorem hs_app (Z Y : List Item) : hsOf (Z ++ Y) = hsOf Z ++ hsOf Y := by simp [hsOf]
theorem hs_at : ∀ {Z : List Item} {k : Nat} {z : Item}, Z[k]? = some z → (hsOf Z)[k * 2]? = some z.2.1.1 ∧ (hsOf Z)[k * 2 + 1]? = some z.2.1.2
  | [], k, z, h => by simp at h
  | y :: t, 0, z, h => by
    obtain rfl : y = z := by simpa using h
    simp [hsOf]
  | y :: t, k + 1, z, h => by
    have := hs_at (Z := t) (k := k) (z := z) (by simpa using h)
    unfold hsOf at this ⊢
    rw [List.flatMap_cons, show (k + 1) * 2 = k * 2 + 1 + 1 by omega]
    simpa using this
theorem bs_mem {Z : List Item} {z : Item} (h : z ∈ Z) : z.1.1 ∈ bsOf Z ∧ z.1.2 ∈ bsOf Z := by
  unfold bsOf
  exact ⟨List.mem_flatMap.2 ⟨z, h, by simp⟩, List.mem_flatMap.2 ⟨z, h, by simp⟩⟩
theorem nd_cons {z : Item} {Z : List Item} : (bsOf (z :: Z)).Nodup ↔ z.1.1 ≠ z.1.2 ∧ z.1.1 ∉ bsOf Z ∧ z.1.2 ∉ bsOf Z ∧ (bsOf Z).Nodup := by
  unfold bsOf
  rw [List.flatMap_cons]
  show (z.1.1 :: z.1.2 :: (Z.flatMap fun z => [z.1.1, z.1.2])).Nodup ↔ _
  rw [List.nodup_cons, List.nodup_cons, List.mem_cons, not_or]
  exact ⟨fun ⟨⟨a, b⟩, c, d⟩ => ⟨a, b, c, d⟩, fun ⟨a, b, c, d⟩ => ⟨⟨a, b⟩, c, d⟩⟩
def blk0 (Z : List Item) (k : Nat) : Nat × Nat := (Z[k]?.map fun z => z.1).getD (0, 0)
theorem nd_ne : ∀ {Z : List Item}, (bsOf Z).Nodup → ∀ (i j : Nat) (y z : Item), Z[i]? = some y → Z[j]? = some z → i ≠ j → y.1.1 ≠ z.1.1 ∧ y.1.1 ≠ z.1.2 ∧ y.1.2 ≠ z.1.2
  | [], _, i, j, y, z, h, _, _ => by simp at h
  | x :: t, h, 0, 0, y, z, hy, hz, hn => absurd rfl hn
  | x :: t, h, 0, j + 1, y, z, hy, hz, hn => by
    obtain rfl : x = y := by simpa using hy
    obtain ⟨a, b, c, d⟩ := nd_cons.1 h
    have := bs_mem (List.mem_of_getElem? (show t[j]? = some z by simpa using hz))
    exact ⟨fun e => b (e ▸ this.1), fun e => b (e ▸ this.2), fun e => c (e ▸ this.2)⟩
  | x :: t, h, i + 1, 0, y, z, hy, hz, hn => by
    obtain rfl : x = z := by simpa using hz
    obtain ⟨a, b, c, d⟩ := nd_cons.1 h
    have := bs_mem (List.mem_of_getElem? (show t[i]? = some y by simpa using hy))
    exact ⟨fun e => b (e ▸ this.1), fun e => c (e ▸ this.1), fun e => c (e ▸ this.2)⟩
  | x :: t, h, i + 1, j + 1, y, z, hy, hz, hn => nd_ne (nd_cons.1 h).2.2.2 i j y z (by simpa using hy) (by simpa using hz) (by omega)
/-- Items in memory are a list of surfaces in memory. -/
theorem Pk.ls {w : World} {lo hi : Nat} {ex : Nat → Prop} {Z : List Item} (h : Pk w lo hi ex Z) : Ls w lo hi ex (blk0 Z) (hsOf Z) (Z.map sOf) := by
  refine ⟨by rw [hs_len, List.length_map], h.top, fun k s hk => ?_, fun i j hi hj hij => ?_⟩
  · rw [List.getElem?_map] at hk
    cases hz : Z[k]? with
    | none => rw [hz] at hk; simp at hk
    | some z =>
      rw [hz] at hk
      obtain rfl : sOf z = s := by simpa using hk
      obtain ⟨a, b⟩ := h.each z (List.mem_of_getElem? hz)
      have eb : blk0 Z k = z.1 := by simp [blk0, hz]
      obtain ⟨e1, e2⟩ := hs_at hz
      refine ⟨_, _, e1, e2, by rw [eb]; exact a, by rw [eb]; exact b, ?_⟩
      rw [eb]
      obtain ⟨p, q, e⟩ := List.append_of_mem (List.mem_of_getElem? hz)
      have hp : Z.Perm (z :: (p ++ q)) := by rw [e]; exact List.perm_middle
      exact (nd_cons.1 (h.perm hp).nd).1
  · rw [List.length_map] at hi hj
    have ei := List.getElem?_eq_getElem hi
    have ej := List.getElem?_eq_getElem hj
    have e1 : blk0 Z i = Z[i].1 := by simp [blk0, ei]
    have e2 : blk0 Z j = Z[j].1 := by simp [blk0, ej]
    rw [e1, e2]
    exact nd_ne h.nd i j _ _ ei ej hij
/-- The first i items looked at: what is out, and whether the new one is placed. -/
def insStep (z : Item) (o : List Item × Bool) (x : Item) : List Item × Bool :=
  if !(o.2 || decide (sOf x = sOf z)) && bef (sOf z) (sOf x) then (o.1 ++ [z, x], true) else (o.1 ++ [x], o.2 || decide (sOf x = sOf z))
def insTo (z : Item) (Z : List Item) : List Item × Bool := Z.foldl (insStep z) ([], false)
def insZ (z : Item) (Z : List Item) : List Item := if (insTo z Z).2 then (insTo z Z).1 else (insTo z Z).1 ++ [z]
theorem insTo_snoc (z : Item) (Z : List Item) (x : Item) : insTo z (Z ++ [x]) = insStep z (insTo z Z) x := by simp [insTo]
theorem insTo_next {z : Item} {Z : List Item} {k : Nat} {x : Item} (h : Z[k]? = some x) : insTo z (Z.take (k + 1)) = insStep z (insTo z (Z.take k)) x := by
  rw [List.take_add_one, h]
  exact insTo_snoc _ _ _
theorem ins_fold (z : Item) : ∀ (Z acc : List Item) (d : Bool), (let o := Z.foldl (insStep z) (acc, d); (if o.2 then o.1 else o.1 ++ [z]).map sOf) = acc.map sOf ++ insL (Z.map sOf) (sOf z) d
  | [], acc, d => by cases d <;> simp [insL]
  | x :: t, acc, d => by
    rw [List.foldl_cons]
    show _ = acc.map sOf ++ insL (sOf x :: t.map sOf) (sOf z) d
    rw [insL]
    by_cases h : (!(d || decide (sOf x = sOf z)) && bef (sOf z) (sOf x)) = true
    · have e : insStep z (acc, d) x = (acc ++ [z, x], true) := by simp only [insStep, h, if_true]
      rw [e, ins_fold z t, if_pos h]
      simp
    · have e : insStep z (acc, d) x = (acc ++ [x], d || decide (sOf x = sOf z)) := by
        simp only [insStep]
        rw [if_neg h]
      rw [e, ins_fold z t, if_neg h]
      simp
theorem insZ_map (z : Item) (Z : List Item) : (insZ z Z).map sOf = insL (Z.map sOf) (sOf z) false := by
  exact (ins_fold z Z [] false).trans (List.nil_append _)
/-- What is out so far is what was looked at, and the new one, if it is placed; or it was there. -/
theorem insTo_perm (z : Item) : ∀ (Z acc : List Item) (d : Bool), ∃ Y, ((Z.foldl (insStep z) (acc, d)).1).Perm (Y ++ (acc ++ Z)) ∧ (Y = [] ∨ (Y = [z] ∧ d = false ∧ (Z.foldl (insStep z) (acc, d)).2 = true))
  | [], acc, d => ⟨[], by simp, .inl rfl⟩
  | x :: t, acc, d => by
    rw [List.foldl_cons]
    by_cases h : (!(d || decide (sOf x = sOf z)) && bef (sOf z) (sOf x)) = true
    · have e : insStep z (acc, d) x = (acc ++ [z, x], true) := by simp only [insStep, h, if_true]
      have hd : d = false := by
        cases d
        · rfl
        · simp at h
      rw [e]
      obtain ⟨Y, p, q⟩ := insTo_perm z t (acc ++ [z, x]) true
      rcases q with rfl | ⟨_, q, _⟩
      · refine ⟨[z], ?_, .inr ⟨rfl, hd, ?_⟩⟩
        · refine p.trans ?_
          rw [List.nil_append, List.append_assoc]
          show (acc ++ z :: x :: t).Perm (z :: (acc ++ x :: t))
          exact List.perm_middle
        · exact ins_done z t _
      · cases q
    · have e : insStep z (acc, d) x = (acc ++ [x], d || decide (sOf x = sOf z)) := by
        simp only [insStep]
        rw [if_neg h]
      rw [e]
      obtain ⟨Y, p, q⟩ := insTo_perm z t (acc ++ [x]) (d || decide (sOf x = sOf z))
      refine ⟨Y, by rw [List.append_assoc] at p; exact p, ?_⟩
      rcases q with rfl | ⟨q1, q2, q3⟩
      · exact .inl rfl
      · refine .inr ⟨q1, ?_, q3⟩
        cases d
        · rfl
        · simp at q2
where ins_done (z : Item) : ∀ (Z acc : List Item), (Z.foldl (insStep z) (acc, true)).2 = true
  | [], acc => rfl
  | x :: t, acc => by
    rw [List.foldl_cons]
    have e : insStep z (acc, true) x = (acc ++ [x], true) := by simp [insStep]
    rw [e]
    exact ins_done z t _
theorem insZ_perm (z : Item) (Z : List Item) : (insZ z Z).Perm Z ∨ (insZ z Z).Perm (z :: Z) := by
  obtain ⟨Y, p, q⟩ := insTo_perm z Z [] false
  unfold insZ insTo
  rcases q with rfl | ⟨rfl, _, q3⟩
  · split
    · exact .inl (by simpa using p)
    · refine .inr ?_
      refine (p.append_right [z]).trans ?_
      simp only [List.nil_append]
      exact List.perm_append_comm
  · rw [if_pos q3]
    exact .inr (by simpa using p)
/-- The new list's items are in memory, if the old and the new one are. -/
theorem Pk.ins {w : World} {lo hi : Nat} {ex : Nat → Prop} {Z : List Item} {z : Item} (h : Pk w lo hi ex (z :: Z)) : Pk w lo hi ex (insZ z Z) := by
  rcases insZ_perm z Z with p | p
  · have hz : Pk w lo hi ex Z := by
      have := h.perm (show (z :: Z).Perm (Z ++ [z]) from (List.perm_append_comm (l₁ := [z]) (l₂ := Z)))
      exact this.sub
    exact hz.perm p.symm
  · exact h.perm p.symm
end Go.Proofs.YtafpbnjfmieamaaGreat.lst

/-
  RenameSurface, of the model and of the program.
-/
namespace Go.Proofs.YtafpbnjfmieamaaGreat.gl
open Go.ChangeShapes Go.WideShapes Go.ChangeAt Go.RowKit
open Go.Proofs.YtafpbnjfmieamaaGreat.mem Go.Proofs.YtafpbnjfmieamaaGreat.ints Go.Proofs.YtafpbnjfmieamaaGreat.arr Go.Proofs.YtafpbnjfmieamaaGreat.pm Go.Proofs.YtafpbnjfmieamaaGreat.permOk Go.Proofs.YtafpbnjfmieamaaGreat.permOf Go.Proofs.YtafpbnjfmieamaaGreat.inv Go.Proofs.YtafpbnjfmieamaaGreat.fns Go.Proofs.YtafpbnjfmieamaaGreat.sf
set_option linter.unusedVariables false
set_option maxRecDepth 100000

/-- A surface and a bool. -/
def SB (r u : List Int) (b : Bool) (w : World) (e : Ending) (w' : World) : Prop := ∃ g, e = .returned (.tuple #[g, .bool b]) ∧ Svl w' w.heap.size w'.heap.size g r u ∧ Below w.heap.size w w'
theorem built2 : Tryz.prog.built 38 [] = some #[.slice none 0 0, .slice none 0 0] := by kernel_rfl
theorem sb_nil {w w1 : World} {b : Bool} {r u : List Int} (hr : r = []) (hu : u = []) (hb : b = false) (h : Below w.heap.size w w1) : SB r u b w (.returned (.tuple #[.agg #[.slice none 0 0, .slice none 0 0], .bool false])) w1 := by
  subst hr; subst hu; subst hb
  exact ⟨_, rfl, Svl.nil _ _ _ (Nat.le_refl _) h.size, h⟩
theorem Svl.row {w : World} {lo hi g : Nat} {v : Value} {r u : List Int} (h : Svl w lo hi v r u) (hg : g < lo) (cs : Array Value) : Svl (w.setRow g cs) lo hi v r u :=
  h.out ((Out.refl 0 (g + 1) w).row_ (Nat.zero_le _) (Nat.lt_succ_self _) cs) (.inr (by omega))
def rsB (r u ns : List Int) : Bool := transB r u && okB ns && decide (ns.length = r.length)
def rsR (r u ns : List Int) : List Int := if rsB r u ns then renTo r.length r ns r.length else []
def rsU (r u ns : List Int) : List Int := if rsB r u ns then renTo r.length u ns r.length else []
theorem rsB_iff {r u ns : List Int} : rsB r u ns = true ↔ transB r u = true ∧ okB ns = true ∧ ns.length = r.length := by simp [rsB, and_assoc]
theorem rs_no {r u ns : List Int} (h : ¬ (transB r u = true ∧ okB ns = true ∧ ns.length = r.length)) : rsR r u ns = [] ∧ rsU r u ns = [] ∧ rsB r u ns = false := by
  have : rsB r u ns = false := by rw [← Bool.not_eq_true, rsB_iff]; exact h
  simp [rsR, rsU, this]
theorem rs_yes {r u ns : List Int} (h : transB r u = true) (h2 : okB ns = true) (h3 : ns.length = r.length) : rsR r u ns = renTo r.length r ns r.length ∧ rsU r u ns = renTo r.length u ns r.length ∧ rsB r u ns = true := by
  have : rsB r u ns = true := rsB_iff.2 ⟨h, h2, h3⟩
  simp [rsR, rsU, this]
theorem rsR_len (r u ns : List Int) : (rsR r u ns).length ≤ 1048576 := by
  unfold rsR; split
  · rename_i h; have := (transB_iff.1 (rsB_iff.1 h).1).r.len; rw [renTo_len]; omega
  · simp
theorem rsU_len (r u ns : List Int) : (rsU r u ns).length ≤ 1048576 := by
  unfold rsU; split
  · rename_i h; have := (transB_iff.1 (rsB_iff.1 h).1).r.len; rw [renTo_len]; omega
  · simp

end Go.Proofs.YtafpbnjfmieamaaGreat.gl

/-
  RenameSurface of the program.
-/
namespace Go.Proofs.YtafpbnjfmieamaaGreat.gl
open Go.ChangeShapes Go.WideShapes Go.ChangeAt Go.RowKit
open Go.Proofs.YtafpbnjfmieamaaGreat.mem Go.Proofs.YtafpbnjfmieamaaGreat.ints Go.Proofs.YtafpbnjfmieamaaGreat.arr Go.Proofs.YtafpbnjfmieamaaGreat.pm Go.Proofs.YtafpbnjfmieamaaGreat.permOk Go.Proofs.YtafpbnjfmieamaaGreat.permOf Go.Proofs.YtafpbnjfmieamaaGreat.inv Go.Proofs.YtafpbnjfmieamaaGreat.fns Go.Proofs.YtafpbnjfmieamaaGreat.sf
set_option linter.unusedVariables false
set_option maxRecDepth 100000

theorem take_ren24 {n : Nat} {xs ys : List Int} (h : Ok xs) (h' : Ok ys) (lx : xs.length = n) (ly : ys.length = n) : (ren24 (ext xs) (ext ys)).take n = renTo n xs ys n := by
  rw [ren24_ext h h' lx ly]
  have e := ext_take (renTo n xs ys n) (by rw [renTo_len]; have := h.len; omega)
  rwa [renTo_len] at e

end Go.Proofs.YtafpbnjfmieamaaGreat.gl

/-
  CanonOf, CountSymmetries and AreIsomorphic of the program.
-/
namespace Go.Proofs.YtafpbnjfmieamaaGreat.gl
open Go.ChangeShapes Go.WideShapes Go.ChangeAt Go.RowKit
open Go.Proofs.YtafpbnjfmieamaaGreat.mem Go.Proofs.YtafpbnjfmieamaaGreat.ints Go.Proofs.YtafpbnjfmieamaaGreat.arr Go.Proofs.YtafpbnjfmieamaaGreat.pm Go.Proofs.YtafpbnjfmieamaaGreat.permOk Go.Proofs.YtafpbnjfmieamaaGreat.permOf Go.Proofs.YtafpbnjfmieamaaGreat.inv Go.Proofs.YtafpbnjfmieamaaGreat.fns Go.Proofs.YtafpbnjfmieamaaGreat.sf
set_option linter.unusedVariables false
set_option maxRecDepth 100000

/-- What CanonOf gives. -/
def cfR (r u : List Int) : List Int := if transB r u then (can r u r.length).1 else []
def cfU (r u : List Int) : List Int := if transB r u then (can r u r.length).2 else []
theorem can_len (r u : List Int) {n : Nat} (h : 0 < n) : (can r u n).1.length = n ∧ (can r u n).2.length = n := by
  obtain ⟨j, hj, e⟩ := can_is (R := r) (U := u) h
  rw [e]; exact Fm_len _ _ _ _
theorem cf_yes {r u : List Int} (h : transB r u = true) : cfR r u = (can r u r.length).1 ∧ cfU r u = (can r u r.length).2 := by simp [cfR, cfU, h]
theorem cf_no {r u : List Int} (h : transB r u = false) : cfR r u = [] ∧ cfU r u = [] := by simp [cfR, cfU, h]
theorem cfR_len (r u : List Int) : (cfR r u).length ≤ 1048576 := by
  unfold cfR; split
  · rename_i h; have s := transB_iff.1 h; rw [(can_len r u s.pos).1]; have := s.r.len; omega
  · simp
theorem cfU_len (r u : List Int) : (cfU r u).length ≤ 1048576 := by
  unfold cfU; split
  · rename_i h; have s := transB_iff.1 h; rw [(can_len r u s.pos).2]; have := s.r.len; omega
  · simp
def csF (r u : List Int) : Int := if transB r u then (sym r u r.length : Int) else 0
theorem cs_yes {r u : List Int} (h : transB r u = true) : csF r u = (sym r u r.length : Int) := by simp [csF, h]
theorem cs_no {r u : List Int} (h : transB r u = false) : csF r u = 0 := by simp [csF, h]

end Go.Proofs.YtafpbnjfmieamaaGreat.gl
