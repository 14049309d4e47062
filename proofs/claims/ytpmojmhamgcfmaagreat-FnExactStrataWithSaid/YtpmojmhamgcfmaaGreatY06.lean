import Derived.Test.YtpmojmhamgcfmaaGreatY05
import Derived.Test.YtpmojmhamgcfmaaGreatY04
/-
  Orbits: letters on isomorphic surfaces; an orbit is closed under all letters, and is what words reach. Plain mathematics.
-/
namespace Go.Proofs.YtpmojmhamgcfmaaGreat.orb
open Go.Proofs.YtpmojmhamgcfmaaGreat.pm
set_option linter.unusedVariables false
set_option maxRecDepth 100000

theorem ren_thn {n : Nat} {X Y P : List Int} (h : Ren n X Y P) (lx : X.length = n) (lp : P.length = n) : thn X P = thn P Y := by
  refine list_eq n (by rw [thn_len]; exact lx) (by rw [thn_len]; exact lp) fun i hi => ?_
  rw [thn_at (by omega), thn_at (by omega)]
  exact (h.eq i hi).symm
theorem conj_inv {n : Nat} {X Y P : List Int} (x : Ok X) (y : Ok Y) (p : Ok P) (lx : X.length = n) (ly : Y.length = n) (lp : P.length = n) (h : thn X P = thn P Y) : thn (Inv X) P = thn P (Inv Y) := by
  have ix := Inv_ok x
  have lix : (Inv X).length = n := by rw [Inv_len]; exact lx
  have e1 : P = thn (Inv X) (thn P Y) := by rw [← h, ← thn_assoc ix (by rw [lix, lx]), Inv_thn_self x lx, id_thn lp]
  have o1 : Ok (thn (Inv X) P) := thn_ok ix p (by rw [lix, lp])
  have e2 : thn P (Inv Y) = thn (thn (Inv X) (thn P Y)) (Inv Y) := by rw [← e1]
  rw [e2, ← thn_assoc ix (by rw [lix, lp]), thn_assoc o1 (by rw [thn_len, lix, ly]), thn_Inv y ly, thn_id o1 (by rw [thn_len]; exact lix)]
theorem conj_thn {n : Nat} {X Y X' Y' P : List Int} (x : Ok X) (p : Ok P) (x' : Ok X') (lx : X.length = n) (lp : P.length = n) (lx' : X'.length = n) (ly : Y.length = n) (ly' : Y'.length = n) (h : thn X P = thn P X') (h' : thn Y P = thn P Y') : thn (thn X Y) P = thn P (thn X' Y') := by
  rw [thn_assoc x (by rw [lx, ly]), h', ← thn_assoc x (by rw [lx, lp]), h, thn_assoc p (by rw [lp, lx'])]
/-- Letters on isomorphic surfaces give isomorphic surfaces. -/
theorem let_iso {n : Nat} {R U R' U' ns : List Int} (h : Iso n R U R' U' ns) (s' : Sf n R' U') (c : UInt8) : Iso n (letS c (R, U)).1 (letS c (R, U)).2 (letS c (R', U')).1 (letS c (R', U')).2 ns := by
  have s := h.s
  have a1 := ren_thn h.r s.lr h.ln
  have a2 := ren_thn h.u s.lu h.ln
  have i1 := conj_inv s.r s'.r h.okn s.lr s'.lr h.ln a1
  have i2 := conj_inv s.u s'.u h.okn s.lu s'.lu h.ln a2
  have li1 : (Inv R).length = n := by rw [Inv_len]; exact s.lr
  have li1' : (Inv R').length = n := by rw [Inv_len]; exact s'.lr
  have li2 : (Inv U).length = n := by rw [Inv_len]; exact s.lu
  have li2' : (Inv U').length = n := by rw [Inv_len]; exact s'.lu
  have t := letS_sf s c
  have t' := letS_sf s' c
  unfold letS at t t' ⊢
  split
  · rename_i e
    rw [if_pos e] at t t'
    exact ⟨t, h.okn, h.ln, h.r, ren_of t.u t'.u h.okn t.lu t'.lu h.ln (conj_thn (Inv_ok s.r) h.okn (Inv_ok s'.r) li1 h.ln li1' s.lu s'.lu i1 a2)⟩
  · rename_i e
    rw [if_neg e] at t t'
    split
    · rename_i e2
      rw [if_pos e2] at t t'
      exact ⟨t, h.okn, h.ln, h.r, ren_of t.u t'.u h.okn t.lu t'.lu h.ln (conj_thn s.r h.okn s'.r s.lr h.ln s'.lr s.lu s'.lu a1 a2)⟩
    · rename_i e2
      rw [if_neg e2] at t t'
      split
      · rename_i e3
        rw [if_pos e3] at t t'
        exact ⟨t, h.okn, h.ln, ren_of t.r t'.r h.okn t.lr t'.lr h.ln i2, h.r⟩
      · rename_i e3
        rw [if_neg e3] at t t'
        exact ⟨t, h.okn, h.ln, h.u, ren_of t.u t'.u h.okn t.lu t'.lu h.ln i1⟩
theorem cn_let {n : Nat} {s : Sur} (h : Sf n s.1 s.2) (c : UInt8) : cn (letS c (cn s)) = cn (letS c s) := by
  obtain ⟨R, U⟩ := s
  obtain ⟨ns, i, s'⟩ := h.can_iso
  have e : cn (R, U) = can R U n := by unfold cn; rw [h.lr]
  rw [e]
  have j := let_iso i s' c
  have k := letS_sf h c
  have k' := letS_sf s' c
  have := j.can_eq k'
  unfold cn
  rw [k.lr, k'.lr]
  exact this
theorem cn_cn {n : Nat} {s : Sur} (h : Sf n s.1 s.2) : cn (cn s) = cn s := by
  obtain ⟨R, U⟩ := s
  obtain ⟨ns, i, s'⟩ := h.can_iso
  have e : cn (R, U) = can R U n := by unfold cn; rw [h.lr]
  rw [e]
  unfold cn
  rw [s'.lr]
  exact i.can_eq s'
theorem stp_cn_eq {n : Nat} {s : Sur} (h : Sf n s.1 s.2) (c : UInt8) : stp c (cn s) = cn (letS c s) := cn_let h c
theorem runS_append (v w : List UInt8) (s : Sur) : runS (v ++ w) s = runS w (runS v s) := by simp [runS, List.foldl_append]
/-- Words on surfaces with one form. -/
theorem cn_run {n : Nat} : ∀ (w : List UInt8) {s : Sur}, Sf n s.1 s.2 → cn (runS w (cn s)) = cn (runS w s) := by
  intro w
  have key : ∀ (w : List UInt8) (s t : Sur), Sf n s.1 s.2 → Sf n t.1 t.2 → cn s = cn t → cn (runS w s) = cn (runS w t) := by
    intro w
    induction w with
    | nil => intro s t _ _ e; exact e
    | cons c w ih =>
      intro s t hs ht e
      refine ih (letS c s) (letS c t) (letS_sf hs c) (letS_sf ht c) ?_
      rw [← cn_let hs c, ← cn_let ht c, e]
  intro s hs
  exact key w _ _ (cn_sf hs) hs (cn_cn hs)

theorem g_sub_len {α : Type} [DecidableEq α] : ∀ (l m : List α), l.Nodup → (∀ x ∈ l, x ∈ m) → l.length ≤ m.length := by
  intro l
  induction l with
  | nil => intros; simp
  | cons a t ih =>
    intro m hd hs
    have hd' := List.nodup_cons.1 hd
    have ha := hs a (by simp)
    have := ih (m.erase a) hd'.2 (fun x hx => (List.mem_erase_of_ne (fun (e : x = a) => hd'.1 (by rw [← e]; exact hx))).2 (hs x (by simp [hx])))
    rw [List.length_erase_of_mem ha] at this
    have : 0 < m.length := List.length_pos_of_mem ha
    simp
    omega
theorem g_sub_mem {α : Type} [DecidableEq α] {l m : List α} (hl : l.Nodup) (hs : ∀ x ∈ l, x ∈ m) (hlen : m.length ≤ l.length) {y : α} (hy : y ∈ m) : y ∈ l := by
  by_cases h : y ∈ l
  · exact h
  · have := g_sub_len (y :: l) m (List.nodup_cons.2 ⟨h, hl⟩) (fun x hx => by
      rcases List.mem_cons.1 hx with rfl | hx
      · exact hy
      · exact hs x hx)
    simp at this
    omega
theorem map_nodup {α β : Type} {f : α → β} : ∀ {l : List α}, l.Nodup → (∀ x ∈ l, ∀ y ∈ l, f x = f y → x = y) → (l.map f).Nodup
  | [], _, _ => by simp
  | a :: l, h, hf => by
    obtain ⟨h1, h2⟩ := List.nodup_cons.1 h
    rw [List.map_cons]
    refine List.nodup_cons.2 ⟨fun hm => ?_, map_nodup h2 (fun x hx y hy => hf x (List.mem_cons_of_mem _ hx) y (List.mem_cons_of_mem _ hy))⟩
    obtain ⟨y, hy, e⟩ := List.mem_map.1 hm
    have := hf a (by simp) y (List.mem_cons_of_mem _ hy) e.symm
    exact h1 (this ▸ hy)
/-- An injective map of a list into itself meets all of it. -/
theorem onto_self {α : Type} [DecidableEq α] {l : List α} {f : α → α} (hl : l.Nodup) (hf : ∀ x ∈ l, ∀ y ∈ l, f x = f y → x = y) (hm : ∀ x ∈ l, f x ∈ l) {y : α} (hy : y ∈ l) : ∃ x ∈ l, f x = y := by
  have := g_sub_mem (l := l.map f) (m := l) (map_nodup hl hf) (fun x hx => by obtain ⟨z, hz, rfl⟩ := List.mem_map.1 hx; exact hm z hz) (by simp) hy
  obtain ⟨x, hx, e⟩ := List.mem_map.1 this
  exact ⟨x, hx, e⟩

/-- What the search keeps of an orbit. -/
structure Oj (n : Nat) (s : Sur) (k : Nat) (q : LW) : Prop where
  oi : Oi n q
  head : q.1[0]? = some (cn s)
  word : ∀ (i : Nat) (w : List UInt8) (x : Sur), q.2[i]? = some w → q.1[i]? = some x → w.all isL = true ∧ x = cn (runS w s)
  nd : q.1.Nodup
  cl : ∀ (i : Nat) (x : Sur), i < k → q.1[i]? = some x → stp 84 x ∈ q.1 ∧ stp 83 x ∈ q.1
theorem Oj.start {n : Nat} {s : Sur} (h : Sf n s.1 s.2) : Oj n s 0 ([cn s], [[]]) :=
  ⟨Oi.start h, rfl, fun i w x hw hx => by
    cases i with
    | zero => simp at hw hx; subst hw; subst hx; exact ⟨rfl, rfl⟩
    | succ i => simp at hw, by simp, fun i x hi => absurd hi (by omega)⟩
theorem snoc_at {α : Type} {l : List α} {a x : α} {i : Nat} (h : (l ++ [a])[i]? = some x) : l[i]? = some x ∨ (i = l.length ∧ x = a) := by
  rw [List.getElem?_append] at h
  split at h
  · exact .inl h
  · rcases Nat.eq_zero_or_pos (i - l.length) with e | e
    · rw [e] at h; simp at h; exact .inr ⟨by omega, h.symm⟩
    · rw [List.getElem?_eq_none (by simp; omega)] at h; cases h
theorem Oj.add {n k : Nat} {s : Sur} {q : LW} (hs : Sf n s.1 s.2) (h : Oj n s k q) (hk : k < q.1.length) {c : UInt8} (hc : isL c = true) : Oj n s k (addL k c q) ∧ (∀ x, q.1[k]? = some x → stp c x ∈ (addL k c q).1) := by
  obtain ⟨x, w, h1, h2, h3, h4, h5, h6⟩ := h.oi.at hk
  have hoi := h.oi.add hk c
  by_cases hm : stp c x ∈ q.1
  · have e : addL k c q = q := by unfold addL; rw [h2, if_pos hm]
    rw [e]
    exact ⟨h, fun y hy => by rw [h1] at hy; obtain rfl := Option.some.inj hy; exact hm⟩
  · have e : addL k c q = (q.1 ++ [stp c x], q.2 ++ [w ++ [c]]) := by unfold addL; rw [h2, h5, if_neg hm]
    rw [e] at hoi ⊢
    obtain ⟨w1, w2⟩ := h.word k w x h4 h1
    have hl := h.oi.len
    refine ⟨⟨hoi, ?_, fun i v y hv hy => ?_, ?_, fun i y hi hy => ?_⟩, fun y hy => ?_⟩
    · show (q.1 ++ [stp c x])[0]? = _
      rw [List.getElem?_append_left (by omega)]; exact h.head
    · rcases snoc_at hv with a | ⟨a, rfl⟩ <;> rcases snoc_at hy with b | ⟨b, rfl⟩
      · exact h.word i v y a b
      · have := (List.getElem?_eq_some_iff.1 a).1; omega
      · have := (List.getElem?_eq_some_iff.1 b).1; omega
      · refine ⟨by simp [w1, hc], ?_⟩
        rw [runS_snoc, w2]
        exact stp_cn_eq (runS_sf w s hs) c
    · show (q.1 ++ [stp c x]).Nodup
      rw [List.nodup_append]
      refine ⟨h.nd, by simp, fun a ha b hb => ?_⟩
      simp at hb
      subst hb
      intro e'
      exact hm (e' ▸ ha)
    · rcases snoc_at hy with b | ⟨b, _⟩
      · obtain ⟨c1, c2⟩ := h.cl i y hi b
        exact ⟨List.mem_append_left _ c1, List.mem_append_left _ c2⟩
      · omega
    · rw [h1] at hy
      obtain rfl := Option.some.inj hy
      exact List.mem_append_right _ (by simp)
theorem Oj.two {n k : Nat} {s : Sur} {q : LW} (hs : Sf n s.1 s.2) (h : Oj n s k q) (hk : k < q.1.length) : Oj n s (k + 1) (two k q) := by
  obtain ⟨a1, a2⟩ := h.add hs hk (c := 84) (by decide)
  obtain ⟨r, er, _⟩ := addL_sub k 84 q
  have hk2 : k < (addL k 84 q).1.length := by rw [er]; simp; omega
  obtain ⟨b1, b2⟩ := a1.add hs hk2 (c := 83) (by decide)
  obtain ⟨r2, er2, _⟩ := addL_sub k 83 (addL k 84 q)
  refine ⟨b1.oi, b1.head, b1.word, b1.nd, fun i x hi hx => ?_⟩
  by_cases e : i = k
  · subst e
    have hq := List.getElem?_eq_getElem hk
    have hx1 : (addL i 84 q).1[i]? = some q.1[i] := by rw [er, List.getElem?_append_left hk]; exact hq
    have hx2 : (orb.two i q).1[i]? = some q.1[i] := by show (addL i 83 (addL i 84 q)).1[i]? = _; rw [er2, List.getElem?_append_left hk2]; exact hx1
    rw [hx2] at hx
    obtain rfl := Option.some.inj hx
    refine ⟨?_, b2 _ hx1⟩
    show _ ∈ (addL i 83 (addL i 84 q)).1
    rw [er2]
    exact List.mem_append_left _ (a2 _ hq)
  · exact b1.cl i x (by omega) hx
theorem orun_oj {n : Nat} {s : Sur} (hs : Sf n s.1 s.2) : ∀ (f k : Nat) (q q' : LW), Oj n s k q → orun f k q = some q' → Oj n s q'.1.length q'
  | 0, k, q, q', _, h => by simp [orun] at h
  | f + 1, k, q, q', hq, h => by
    unfold orun at h
    split at h
    · rename_i hk
      split at h
      · cases h
      · exact orun_oj hs f (k + 1) _ q' (hq.two hs hk) h
    · rename_i hk
      injection h with h
      subst h
      exact ⟨hq.oi, hq.head, hq.word, hq.nd, fun i x hi hx => hq.cl i x (by omega) hx⟩
theorem orb_oj {n : Nat} {s : Sur} {q : LW} (hs : Sf n s.1 s.2) (h : orb s = some q) : Oj n s q.1.length q := orun_oj hs 122 0 _ q (Oj.start hs) h
theorem nd_at {L : List Sur} (h : L.Nodup) {i j : Nat} {x : Sur} (hi : L[i]? = some x) (hj : L[j]? = some x) : i = j := by
  obtain ⟨h1, e1⟩ := List.getElem?_eq_some_iff.1 hi
  obtain ⟨h2, e2⟩ := List.getElem?_eq_some_iff.1 hj
  have hp := List.pairwise_iff_getElem.1 h
  rcases Nat.lt_trichotomy i j with q | q | q
  · exact absurd (e1.trans e2.symm) (hp i j h1 h2 q)
  · exact q
  · exact absurd (e2.trans e1.symm) (hp j i h2 h1 q)
theorem inL_isL {c : UInt8} (h : isL c = true) : isL (inL c) = true := by
  rcases isL_iff.1 h with e | e | e | e <;> simp [inL, isL, e]
theorem inL_inL {c : UInt8} (h : isL c = true) : inL (inL c) = c := by
  rcases isL_iff.1 h with e | e | e | e <;> (apply UInt8.toNat_inj.1; simp [inL, e])
theorem stp_back {n : Nat} {c : UInt8} (hc : isL c = true) {x : Sur} (hx : Sf n x.1 x.2) : stp (inL c) (stp c x) = cn x := by
  have : stp (inL c) (cn (letS c x)) = cn (letS (inL c) (letS c x)) := stp_cn_eq (letS_sf hx c) (inL c)
  rw [show stp c x = cn (letS c x) from rfl, this, letS_inv hx hc]
section
variable {n : Nat} {s : Sur} {q : LW} (hs : Sf n s.1 s.2) (h : Oj n s q.1.length q)
include hs h
theorem Oj.fix {x : Sur} (hx : x ∈ q.1) : cn x = x := by
  obtain ⟨i, hi, e⟩ := List.mem_iff_getElem.1 hx
  have hx' : q.1[i]? = some x := by rw [List.getElem?_eq_getElem hi, e]
  have hi2 : i < q.2.length := by rw [h.oi.len]; exact hi
  obtain ⟨_, w2⟩ := h.word i _ x (List.getElem?_eq_getElem hi2) hx'
  rw [w2]
  exact cn_cn (runS_sf _ s hs)
omit hs in
theorem Oj.step {c : UInt8} (hc : c = 84 ∨ c = 83) {x : Sur} (hx : x ∈ q.1) : stp c x ∈ q.1 := by
  obtain ⟨i, hi, e⟩ := List.mem_iff_getElem.1 hx
  obtain ⟨a, b⟩ := h.cl i x hi (by rw [List.getElem?_eq_getElem hi, e])
  rcases hc with rfl | rfl
  · exact a
  · exact b
theorem Oj.inj {c : UInt8} (hc : isL c = true) {x y : Sur} (hx : x ∈ q.1) (hy : y ∈ q.1) (e : stp c x = stp c y) : x = y := by
  have a := stp_back hc (h.oi.sf x hx)
  have b := stp_back hc (h.oi.sf y hy)
  rw [e, b, h.fix hs hx, h.fix hs hy] at a
  exact a.symm
theorem Oj.all {c : UInt8} (hc : isL c = true) {x : Sur} (hx : x ∈ q.1) : stp c x ∈ q.1 := by
  have key : ∀ d : UInt8, (d = 84 ∨ d = 83) → stp (inL d) x ∈ q.1 := fun d hd => by
    have hdl : isL d = true := by rcases hd with rfl | rfl <;> decide
    obtain ⟨y, hy, e⟩ := onto_self h.nd (f := stp d) (fun a ha b hb => h.inj hs hdl ha hb) (fun a ha => h.step hd ha) hx
    rw [← e, stp_back hdl (h.oi.sf y hy), h.fix hs hy]
    exact hy
  rcases isL_iff.1 hc with e | e | e | e
  · exact h.step (.inl (UInt8.toNat_inj.1 (by simpa using e))) hx
  · have := key 84 (.inl rfl)
    rwa [show inL 84 = c from UInt8.toNat_inj.1 (by simp [inL, e])] at this
  · exact h.step (.inr (UInt8.toNat_inj.1 (by simpa using e))) hx
  · have := key 83 (.inr rfl)
    rwa [show inL 83 = c from UInt8.toNat_inj.1 (by simp [inL, e])] at this
/-- What words reach lies in the orbit. -/
theorem Oj.reach : ∀ (w : List UInt8), w.all isL = true → cn (runS w s) ∈ q.1 := by
  have key : ∀ (w : List UInt8) (t : Sur), Sf n t.1 t.2 → cn t ∈ q.1 → w.all isL = true → cn (runS w t) ∈ q.1 := by
    intro w
    induction w with
    | nil => intro t _ ht _; exact ht
    | cons c w ih =>
      intro t hst ht hw
      simp only [List.all_cons, Bool.and_eq_true] at hw
      refine ih (letS c t) (letS_sf hst c) ?_ hw.2
      rw [← stp_cn_eq hst c]
      exact h.all hs hw.1 ht
  intro w hw
  refine key w s hs ?_ hw
  have := h.head
  exact List.mem_of_getElem? this
omit hs in
theorem Oj.from {x : Sur} (hx : x ∈ q.1) : ∃ w, w.all isL = true ∧ x = cn (runS w s) := by
  obtain ⟨i, hi, e⟩ := List.mem_iff_getElem.1 hx
  have hi2 : i < q.2.length := by rw [h.oi.len]; exact hi
  obtain ⟨w1, w2⟩ := h.word i _ x (List.getElem?_eq_getElem hi2) (by rw [List.getElem?_eq_getElem hi, e])
  exact ⟨_, w1, w2⟩
theorem Oj.mem {x : Sur} : x ∈ q.1 ↔ ∃ w, w.all isL = true ∧ x = cn (runS w s) :=
  ⟨h.from, fun ⟨w, h1, h2⟩ => h2 ▸ h.reach hs w h1⟩
end
theorem invW_isL {w : List UInt8} (h : w.all isL = true) : (invW w).all isL = true := by
  rw [List.all_eq_true] at *
  intro c hc
  unfold invW at hc
  rw [List.mem_reverse] at hc
  obtain ⟨d, hd, rfl⟩ := List.mem_map.1 hc
  exact inL_isL (h d hd)
/-- Two surfaces that a word relates have orbits of the same surfaces. -/
theorem orb_same {n : Nat} {s t : Sur} {q q' : LW} (hs : Sf n s.1 s.2) (ht : Sf n t.1 t.2) (h : orb s = some q) (h' : orb t = some q') {v : List UInt8} (hv : v.all isL = true) (e : cn t = cn (runS v s)) : ∀ x, x ∈ q.1 ↔ x ∈ q'.1 := by
  have J := orb_oj hs h
  have J' := orb_oj ht h'
  have sv := runS_sf v s hs
  intro x
  rw [J.mem hs, J'.mem ht]
  constructor
  · rintro ⟨w, h1, rfl⟩
    refine ⟨invW v ++ w, by simp [invW_isL hv, h1], ?_⟩
    rw [runS_append, ← cn_run w (runS_sf _ t ht), ← cn_run (invW v) ht, e, cn_run (invW v) sv, runS_inv v s hv hs, cn_run w hs]
  · rintro ⟨w, h1, rfl⟩
    refine ⟨v ++ w, by simp [hv, h1], ?_⟩
    rw [runS_append, ← cn_run w ht, e, cn_run w sv]
theorem orb_len_eq {n : Nat} {s t : Sur} {q q' : LW} (hs : Sf n s.1 s.2) (ht : Sf n t.1 t.2) (h : orb s = some q) (h' : orb t = some q') {v : List UInt8} (hv : v.all isL = true) (e : cn t = cn (runS v s)) : q.1.length = q'.1.length := by
  have m := orb_same hs ht h h' hv e
  have a := g_sub_len q.1 q'.1 (orb_oj hs h).nd (fun x hx => (m x).1 hx)
  have b := g_sub_len q'.1 q.1 (orb_oj ht h').nd (fun x hx => (m x).2 hx)
  omega
end Go.Proofs.YtpmojmhamgcfmaaGreat.orb

/-
  Few squares: there are at most 26 canonical forms with four squares or fewer, so their orbits are found. Plain mathematics.
-/
namespace Go.Proofs.YtpmojmhamgcfmaaGreat.orb
open Go.Proofs.YtpmojmhamgcfmaaGreat.pm
set_option linter.unusedVariables false
set_option maxRecDepth 100000

/-- All lists of k numbers below m. -/
def tup (m : Nat) : Nat → List (List Int)
  | 0 => [[]]
  | k + 1 => (rng m).flatMap fun x => (tup m k).map fun l => x :: l
theorem mem_tup {m : Nat} : ∀ {k : Nat} {l : List Int}, l.length = k → (∀ x ∈ l, 0 ≤ x ∧ x < m) → l ∈ tup m k
  | 0, l, h, _ => by
    have := List.eq_nil_of_length_eq_zero h
    subst this
    simp [tup]
  | k + 1, l, h, hx => by
    cases l with
    | nil => simp at h
    | cons a l =>
      unfold tup
      refine List.mem_flatMap.2 ⟨a, mem_rng.2 (hx a (by simp)), List.mem_map.2 ⟨l, mem_tup (by simpa using h) (fun x q => hx x (List.mem_cons_of_mem _ q)), rfl⟩⟩
def prm (n : Nat) : List (List Int) := (tup n n).filter okB
theorem mem_prm {n : Nat} {l : List Int} (h : Ok l) (hl : l.length = n) : l ∈ prm n := by
  refine List.mem_filter.2 ⟨mem_tup hl (fun x hx => ?_), h.b⟩
  obtain ⟨i, hi, rfl⟩ := List.mem_iff_getElem.1 hx
  have h1 := h.lo i hi; have h2 := h.hi i hi
  rw [List.getD_eq_getElem?_getD, List.getElem?_eq_getElem hi, Option.getD_some] at h1 h2
  omega
/-- The canonical forms with n squares. -/
def frm (n : Nat) : List Sur := (prm n).flatMap fun R => ((prm n).filter fun U => transB R U && decide (cn (R, U) = (R, U))).map fun U => (R, U)
theorem mem_frm {n : Nat} {x : Sur} (h : Sf n x.1 x.2) (hc : cn x = x) : x ∈ frm n := by
  obtain ⟨R, U⟩ := x
  refine List.mem_flatMap.2 ⟨R, mem_prm h.r h.lr, List.mem_map.2 ⟨U, List.mem_filter.2 ⟨mem_prm h.u h.lu, ?_⟩, rfl⟩⟩
  have ht : transB R U = true := transB_iff.2 (by rw [h.lr]; exact h)
  simp [ht, hc]
set_option maxRecDepth 100000 in
theorem frm_few : ∀ n : Fin 5, (frm n.val).length ≤ 26 := by decide +kernel
theorem few_len {n k : Nat} {s : Sur} {q : LW} (hs : Sf n s.1 s.2) (hn : n ≤ 4) (h : Oj n s k q) : q.1.length ≤ 26 := by
  refine Nat.le_trans (g_sub_len q.1 (frm n) h.nd (fun x hx => ?_)) (frm_few ⟨n, by omega⟩)
  obtain ⟨i, hi, e⟩ := List.mem_iff_getElem.1 hx
  have hi2 : i < q.2.length := by rw [h.oi.len]; exact hi
  obtain ⟨_, w2⟩ := h.word i _ x (List.getElem?_eq_getElem hi2) (by rw [List.getElem?_eq_getElem hi, e])
  exact mem_frm (h.oi.sf x hx) (by rw [w2]; exact cn_cn (runS_sf _ s hs))
/-- The search ends. -/
theorem orun_some {n : Nat} {s : Sur} (hs : Sf n s.1 s.2) (hn : n ≤ 4) : ∀ (f k : Nat) (q : LW), Oj n s k q → k ≤ q.1.length → 27 ≤ f + k → ∃ q', orun f k q = some q'
  | 0, k, q, h, hk, hf => by have := few_len hs hn h; omega
  | f + 1, k, q, h, hk, hf => by
    unfold orun
    by_cases h1 : k < q.1.length
    · rw [if_pos h1]
      have h2 := h.two hs h1
      have := few_len hs hn h2
      rw [if_neg (by omega)]
      obtain ⟨r, e, _⟩ := addL_sub k 84 q
      obtain ⟨r2, e2, _⟩ := addL_sub k 83 (addL k 84 q)
      refine orun_some hs hn f (k + 1) _ h2 ?_ (by omega)
      show _ ≤ (addL k 83 (addL k 84 q)).1.length
      rw [e2, e]
      simp; omega
    · rw [if_neg h1]
      exact ⟨q, rfl⟩
theorem orb_few {n : Nat} {s : Sur} (hs : Sf n s.1 s.2) (hn : n ≤ 4) : ∃ q, orb s = some q ∧ q.1.length ≤ 26 := by
  obtain ⟨q, e⟩ := orun_some hs hn 122 0 _ (Oj.start hs) (Nat.zero_le _) (by omega)
  exact ⟨q, e, few_len hs hn (orb_oj hs e)⟩
end Go.Proofs.YtpmojmhamgcfmaaGreat.orb

/-
  All surfaces with few squares: the permutations in order, the list of forms into which each form is put at its place; that it holds every form once, in order. Plain mathematics.
-/
namespace Go.Proofs.YtpmojmhamgcfmaaGreat.lst
open Go.Proofs.YtpmojmhamgcfmaaGreat.pm Go.Proofs.YtpmojmhamgcfmaaGreat.orb
set_option linter.unusedVariables false
set_option maxRecDepth 100000

/-- One round of the list of permutations: each is lengthened by what it has not yet. -/
def prmNext (n : Nat) (L : List (List Int)) : List (List Int) := L.flatMap fun p => ((rng n).filter fun x => !decide (x ∈ p)).map fun x => p ++ [x]
def prmS (n : Nat) : Nat → List (List Int)
  | 0 => [[]]
  | k + 1 => prmNext n (prmS n k)
/-- A form put at its place, if it is not there yet. -/
def insL : List Sur → Sur → Bool → List Sur
  | [], s, d => if d then [] else [s]
  | x :: t, s, d => if !(d || decide (x = s)) && bef s x then s :: x :: insL t s true else x :: insL t s (d || decide (x = s))
/-- One pair: what it does to the list. -/
def putP (n : Nat) (acc : List Sur) (r u : List Int) : List Sur := if transB r u then insL acc (can r u n) false else acc
def rowP (n : Nat) (acc : List Sur) (r : List Int) (U : List (List Int)) : List Sur := U.foldl (fun a u => putP n a r u) acc
def allP (n : Nat) (acc : List Sur) (R U : List (List Int)) : List Sur := R.foldl (fun a r => rowP n a r U) acc
/-- All surfaces with n squares. -/
def swL (n : Nat) : List Sur := allP n [] (prmS n n) (prmS n n)
def swF (n : Int) : List Sur := if 1 ≤ n ∧ n ≤ 4 then swL n.toNat else []

/-- In ascending order, each once. -/
def asc : List Sur → Bool
  | [] => true
  | [_] => true
  | a :: b :: t => bef a b && asc (b :: t)
def numS : Nat → Nat
  | 1 => 1
  | 2 => 3
  | 3 => 7
  | 4 => 26
  | _ => 0
set_option maxRecDepth 100000 in
theorem sw_kernel : ∀ n : Fin 4, (swL (n.val + 1)).length = numS (n.val + 1) ∧ asc (swL (n.val + 1)) = true ∧ ((swL (n.val + 1)).all fun x => transB x.1 x.2 && decide (x.1.length = n.val + 1) && decide (cn x = x)) = true ∧ ((frm (n.val + 1)).all fun x => decide (x ∈ swL (n.val + 1))) = true := by decide +kernel
/-- What is said of the list. -/
structure Sw (n : Nat) : Prop where
  len : (swL n).length = numS n
  srt : asc (swL n) = true
  mem : ∀ x, x ∈ swL n ↔ Sf n x.1 x.2 ∧ cn x = x
theorem sw_ok {n : Nat} (h1 : 1 ≤ n) (h2 : n ≤ 4) : Sw n := by
  obtain ⟨a, b, c, d⟩ := sw_kernel ⟨n - 1, by omega⟩
  rw [show n - 1 + 1 = n by omega] at a b c d
  refine ⟨a, b, fun x => ⟨fun hx => ?_, fun ⟨hs, hc⟩ => ?_⟩⟩
  · have := List.all_eq_true.1 c x hx
    simp only [Bool.and_eq_true, decide_eq_true_eq] at this
    obtain ⟨⟨t1, t2⟩, t3⟩ := this
    refine ⟨?_, t3⟩
    have := transB_iff.1 t1
    rwa [t2] at this
  · have := List.all_eq_true.1 d x (mem_frm hs hc)
    simpa using this
theorem asc_pair : ∀ {L : List Sur}, asc L = true → L.Pairwise fun a b => bef a b = true
  | [], _ => List.Pairwise.nil
  | [a], _ => List.pairwise_singleton _ _
  | a :: b :: t, h => by
    simp only [asc, Bool.and_eq_true] at h
    have ih := asc_pair (L := b :: t) h.2
    refine List.pairwise_cons.2 ⟨fun c hc => ?_, ih⟩
    rcases List.mem_cons.1 hc with rfl | q
    · exact h.1
    · exact bef_trans h.1 ((List.pairwise_cons.1 ih).1 c q)
theorem Sw.nd {n : Nat} (h : Sw n) : (swL n).Nodup :=
  (asc_pair h.srt).imp fun {a b} hab e => by subst e; rw [bef_irr] at hab; cases hab
theorem Sw.num {n : Nat} (h : Sw n) : (swL n).length ≤ 26 := by
  rw [h.len]
  unfold numS
  split <;> omega
end Go.Proofs.YtpmojmhamgcfmaaGreat.lst

/-
  An exchange of two elements changes the number of cycles by one; so its parity is that of a product: plain mathematics.
-/
namespace Go.Proofs.YtpmojmhamgcfmaaGreat.pm
open Go.Proofs.YtpmojmhamgcfmaaGreat.arr Go.Proofs.YtpmojmhamgcfmaaGreat.inv Go.Proofs.YtpmojmhamgcfmaaGreat.permOf
set_option linter.unusedVariables false
set_option maxRecDepth 100000

section
variable {n : Nat} {ps : List Int} (hb : Bij n ps)
include hb
theorem cyc_self {f : Int} (f0 : 0 ≤ f) (f1 : f < n) : f ∈ cyc ps n f := by
  have hw := cyc_way hb f0 f1
  have := getD_mem (l := cyc ps n f) (i := 0) hw.pos
  rw [hw.head] at this; exact this
theorem cyc_next {f x : Int} (f0 : 0 ≤ f) (f1 : f < n) (hx : x ∈ cyc ps n f) : ps.getD x.toNat 0 ∈ cyc ps n f := by
  have hw := cyc_way hb f0 f1
  obtain ⟨i, hi, e⟩ := mem_getD hx
  by_cases h : i + 1 < (cyc ps n f).length
  · rw [← e, ← hw.step i h]; exact getD_mem h
  · have : i = (cyc ps n f).length - 1 := by omega
    subst this
    rw [← e, ← hw.last]
    exact cyc_self hb f0 f1
theorem mem_cyc {f y : Int} (f0 : 0 ≤ f) (f1 : f < n) : y ∈ cyc ps n f ↔ ∃ m, it ps f m = y := by
  have hw := cyc_way hb f0 f1
  constructor
  · intro h
    obtain ⟨i, hi, e⟩ := mem_getD h
    exact ⟨i, by rw [← way_it hw i hi, e]⟩
  · rintro ⟨m, rfl⟩
    induction m with
    | zero => exact cyc_self hb f0 f1
    | succ m ih => exact cyc_next hb f0 f1 ih
theorem cyc_trans {f x y : Int} (f0 : 0 ≤ f) (f1 : f < n) (hx : x ∈ cyc ps n f) (hy : y ∈ cyc ps n x) : y ∈ cyc ps n f := by
  have hw := cyc_way hb f0 f1
  obtain ⟨a, ea⟩ := (mem_cyc hb f0 f1).1 hx
  obtain ⟨b, eb⟩ := (mem_cyc hb (hw.inn.lo x hx) (hw.inn.hi x hx)).1 hy
  exact (mem_cyc hb f0 f1).2 ⟨a + b, by rw [← it_add, ea, eb]⟩
theorem cyc_symm {f x : Int} (f0 : 0 ≤ f) (f1 : f < n) (hx : x ∈ cyc ps n f) : f ∈ cyc ps n x := by
  have hw := cyc_way hb f0 f1
  obtain ⟨j, hj, e⟩ := mem_getD hx
  rw [way_it hw j hj] at e
  refine (mem_cyc hb (hw.inn.lo x hx) (hw.inn.hi x hx)).2 ⟨(cyc ps n f).length - j, ?_⟩
  have ej : j + ((cyc ps n f).length - j) = (cyc ps n f).length := by omega
  rw [← e, it_add, ej, ← way_last hw]
theorem cyc_iff {f x y : Int} (f0 : 0 ≤ f) (f1 : f < n) (hx : x ∈ cyc ps n f) : y ∈ cyc ps n x ↔ y ∈ cyc ps n f := by
  have hw := cyc_way hb f0 f1
  constructor
  · exact cyc_trans hb f0 f1 hx
  · exact cyc_trans hb (hw.inn.lo x hx) (hw.inn.hi x hx) (cyc_symm hb f0 f1 hx)
end
/-- x is the least of its cycle. -/
def mn (ps : List Int) (n : Nat) (x : Int) : Bool := decide (∀ y ∈ cyc ps n x, x ≤ y)
theorem mem_cso {n : Nat} {ps : List Int} (hb : Bij n ps) (k : Nat) (hk : k ≤ n) (x : Int) : x ∈ (cso ps n k).flatten ↔ ∃ j : Nat, j < k ∧ x ∈ cyc ps n (j : Int) := by
  induction k with
  | zero => simp [cso]
  | succ k ih =>
    have ih := ih (by omega)
    rw [cso]
    by_cases h : (k : Int) ∈ (cso ps n k).flatten
    · rw [if_pos h, ih]
      constructor
      · rintro ⟨j, hj, q⟩; exact ⟨j, by omega, q⟩
      · rintro ⟨j, hj, q⟩
        by_cases e : j = k
        · subst e
          have hc := cso_cs hb j (by omega)
          -- j lies in an earlier cycle
          obtain ⟨c, hc1, hc2⟩ := List.mem_flatten.1 h
          have : x ∈ (cso ps n j).flatten := by
            have hcyc : ∀ m (hm : m ≤ n) (c : List Int), c ∈ cso ps n m → ∃ i : Nat, i < m ∧ c = cyc ps n (i : Int) := by
              intro m
              induction m with
              | zero => intro _ c hc; simp [cso] at hc
              | succ m ihm =>
                intro hm c hc
                rw [cso] at hc
                split at hc
                · obtain ⟨i, hi, e⟩ := ihm (by omega) c hc; exact ⟨i, by omega, e⟩
                · rcases List.mem_append.1 hc with hc | hc
                  · obtain ⟨i, hi, e⟩ := ihm (by omega) c hc; exact ⟨i, by omega, e⟩
                  · simp at hc; exact ⟨m, by omega, hc⟩
            obtain ⟨i, hi, e⟩ := hcyc j (by omega) c hc1
            subst e
            exact List.mem_flatten.2 ⟨_, hc1, cyc_trans hb (by omega) (by omega) hc2 q⟩
          exact (ih.1 this)
        · exact ⟨j, by omega, q⟩
    · rw [if_neg h]
      simp only [List.flatten_append, List.flatten_cons, List.flatten_nil, List.append_nil, List.mem_append, ih]
      constructor
      · rintro (⟨j, hj, q⟩ | q)
        · exact ⟨j, by omega, q⟩
        · exact ⟨k, by omega, q⟩
      · rintro ⟨j, hj, q⟩
        by_cases e : j = k
        · subst e; exact .inr q
        · exact .inl ⟨j, by omega, q⟩
theorem cso_count {n : Nat} {ps : List Int} (hb : Bij n ps) (k : Nat) (hk : k ≤ n) : (cso ps n k).length = (rng k).countP (mn ps n) := by
  induction k with
  | zero => rfl
  | succ k ih =>
    have e : rng (k + 1) = rng k ++ [(k : Int)] := by unfold rng; rw [List.range_succ, List.map_append]; rfl
    rw [e, List.countP_append, ← ih (by omega), cso]
    have key : (k : Int) ∈ (cso ps n k).flatten ↔ mn ps n (k : Int) = false := by
      rw [mem_cso hb k (by omega)]
      unfold mn
      rw [decide_eq_false_iff_not]
      constructor
      · rintro ⟨j, hj, q⟩ h
        have := h _ (cyc_symm hb (by omega) (by omega) q)
        omega
      · intro h
        have : ∃ y, y ∈ cyc ps n (k : Int) ∧ y < (k : Int) := by
          rcases Classical.em (∃ y, y ∈ cyc ps n (k : Int) ∧ y < (k : Int)) with q | q
          · exact q
          · exact absurd (fun y hy => Int.not_lt.1 (fun hlt => q ⟨y, hy, hlt⟩)) h
        obtain ⟨y, hy, hlt⟩ := this
        have hw := cyc_way (f := (k : Int)) hb (by omega) (by omega)
        have y0 := hw.inn.lo y hy
        exact ⟨y.toNat, by omega, by rw [Int.toNat_of_nonneg y0]; exact cyc_symm hb (by omega) (by omega) hy⟩
    by_cases h : (k : Int) ∈ (cso ps n k).flatten
    · rw [if_pos h]; simp [key.1 h]
    · rw [if_neg h]
      have : mn ps n (k : Int) = true := by
        cases q : mn ps n (k : Int) with
        | true => rfl
        | false => exact absurd (key.2 q) h
      simp [this]
theorem countP_one {l : List Int} {q : Int → Bool} (hl : l.Nodup) {x : Int} (hx : x ∈ l) (hq : q x = true) (hu : ∀ y ∈ l, q y = true → y = x) : l.countP q = 1 := by
  rw [List.countP_eq_length_filter]
  have hm : x ∈ l.filter q := List.mem_filter.2 ⟨hx, hq⟩
  have h1 := nodup_le_one (l.filter q) x (List.Pairwise.filter _ hl) (fun y hy => hu y (List.mem_filter.1 hy).1 (List.mem_filter.1 hy).2)
  have := List.length_pos_of_mem hm
  omega
where
  nodup_le_one (l : List Int) (x : Int) (hl : l.Nodup) (h : ∀ y ∈ l, y = x) : l.length ≤ 1 := by
    match l, hl, h with
    | [], _, _ => simp
    | [a], _, _ => simp
    | a :: b :: t, hl, h =>
      have ha := h a (by simp); have hb := h b (by simp)
      subst ha
      exact absurd hb.symm (fun e => (List.nodup_cons.1 hl).1 (by rw [e]; simp))
theorem countP_part {l : List Int} (q c : Int → Bool) : l.countP q = l.countP (fun x => q x && c x) + l.countP (fun x => q x && !c x) := by
  induction l with
  | nil => rfl
  | cons a t ih =>
    simp only [List.countP_cons, ih]
    cases q a <;> cases c a <;> simp <;> omega
theorem least_of (l : List Int) (h : l ≠ []) : ∃ x ∈ l, ∀ y ∈ l, x ≤ y := by
  induction l with
  | nil => exact absurd rfl h
  | cons a t ih =>
    by_cases ht : t = []
    · subst ht; exact ⟨a, by simp, by simp⟩
    · obtain ⟨x, hx, hm⟩ := ih ht
      by_cases e : a ≤ x
      · refine ⟨a, by simp, fun y hy => ?_⟩
        rcases List.mem_cons.1 hy with rfl | hy
        · exact Int.le_refl _
        · have := hm y hy; omega
      · refine ⟨x, by simp [hx], fun y hy => ?_⟩
        rcases List.mem_cons.1 hy with rfl | hy
        · omega
        · exact hm y hy
/-- One element of a cycle is its least. -/
theorem one_least {n : Nat} {ps : List Int} (hb : Bij n ps) {a : Int} (a0 : 0 ≤ a) (a1 : a < n) : (rng n).countP (fun x => mn ps n x && decide (x ∈ cyc ps n a)) = 1 := by
  have hw := cyc_way hb a0 a1
  obtain ⟨x, hx, hm⟩ := least_of (cyc ps n a) (fun e => by have := hw.pos; rw [e] at this; simp at this)
  refine countP_one (rng_nodup n) (x := x) (mem_rng.2 ⟨hw.inn.lo x hx, hw.inn.hi x hx⟩) ?_ ?_
  · simp only [Bool.and_eq_true, decide_eq_true_eq, mn]
    exact ⟨fun y hy => hm y ((cyc_iff hb a0 a1 hx).1 hy), hx⟩
  · intro y hy q
    simp only [Bool.and_eq_true, decide_eq_true_eq, mn] at q
    have h1 := q.1 x ((cyc_iff hb a0 a1 q.2).2 hx)
    have h2 := hm y q.2
    omega
/-- ps' is ps behind an exchange of a and b. -/
structure Xch (n : Nat) (ps ps' : List Int) (a b : Nat) : Prop where
  p : Bij n ps
  p' : Bij n ps'
  ha : a < n
  hb : b < n
  ne : a ≠ b
  ea : ps'.getD a 0 = ps.getD b 0
  eb : ps'.getD b 0 = ps.getD a 0
  eo : ∀ i, i < n → i ≠ a → i ≠ b → ps'.getD i 0 = ps.getD i 0
theorem Xch.symm {n a b : Nat} {ps ps' : List Int} (h : Xch n ps ps' a b) : Xch n ps' ps a b := ⟨h.p', h.p, h.ha, h.hb, h.ne, h.eb.symm, h.ea.symm, fun i hi q r => (h.eo i hi q r).symm⟩
theorem Xch.other {n a b : Nat} {ps ps' : List Int} (h : Xch n ps ps' a b) {x : Int} (x0 : 0 ≤ x) (x1 : x < n) (q : x ≠ a) (r : x ≠ b) : ps'.getD x.toNat 0 = ps.getD x.toNat 0 := h.eo _ (by omega) (by omega) (by omega)
/-- Where a and b lie in different cycles, their union becomes one. -/
theorem Xch.merge {n a b : Nat} {ps ps' : List Int} (h : Xch n ps ps' a b) (hd : ¬ (b : Int) ∈ cyc ps n a) (x : Int) : x ∈ cyc ps' n a ↔ x ∈ cyc ps n a ∨ x ∈ cyc ps n b := by
  have a1 : (a : Int) < n := by have := h.ha; omega
  have b1 : (b : Int) < n := by have := h.hb; omega
  have hd' : ¬ (a : Int) ∈ cyc ps n b := fun q => hd (cyc_symm h.p (by omega) b1 q)
  have wa := cyc_way (f := (a : Int)) h.p (by omega) a1
  have wb := cyc_way (f := (b : Int)) h.p (by omega) b1
  have na := cyc_next h.p (f := (a : Int)) (by omega) a1 (cyc_self h.p (by omega) a1)
  have nb := cyc_next h.p (f := (b : Int)) (by omega) b1 (cyc_self h.p (by omega) b1)
  rw [Int.toNat_natCast] at na nb
  constructor
  · intro hx
    obtain ⟨m, rfl⟩ := (mem_cyc h.p' (by omega) a1).1 hx
    clear hx
    induction m with
    | zero => exact .inl (cyc_self h.p (by omega) a1)
    | succ m ih =>
      have mm := it_in h.p' (f := (a : Int)) (by omega) a1 m
      show ps'.getD (it ps' a m).toNat 0 ∈ _ ∨ ps'.getD (it ps' a m).toNat 0 ∈ _
      generalize it ps' (a : Int) m = z at *
      by_cases e1 : z = a
      · subst e1; rw [Int.toNat_natCast, h.ea]; exact .inr nb
      · by_cases e2 : z = b
        · subst e2; rw [Int.toNat_natCast, h.eb]; exact .inl na
        · rw [h.other mm.1 mm.2 e1 e2]
          rcases ih with q | q
          · exact .inl (cyc_next h.p (by omega) a1 q)
          · exact .inr (cyc_next h.p (by omega) b1 q)
  · have na' := cyc_next h.p' (f := (a : Int)) (by omega) a1 (cyc_self h.p' (by omega) a1)
    rw [Int.toNat_natCast, h.ea] at na'
    have B : ∀ m, it ps (b : Int) (m + 1) ∈ cyc ps' n a := by
      intro m
      induction m with
      | zero => show ps.getD (b : Int).toNat 0 ∈ _; rw [Int.toNat_natCast]; exact na'
      | succ m ih =>
        have mm := it_in h.p (f := (b : Int)) (by omega) b1 (m + 1)
        have mc := (mem_cyc h.p (f := (b : Int)) (by omega) b1).2 ⟨m + 1, rfl⟩
        show ps.getD (it ps b (m + 1)).toNat 0 ∈ _
        generalize it ps (b : Int) (m + 1) = z at *
        by_cases e2 : z = b
        · subst e2; rw [Int.toNat_natCast]; exact na'
        · rw [← h.other mm.1 mm.2 (fun e => hd' (e ▸ mc)) e2]
          exact cyc_next h.p' (by omega) a1 ih
    have bin : (b : Int) ∈ cyc ps' n a := by
      have e := way_last wb
      have hp := wb.pos
      obtain ⟨k, hk⟩ : ∃ k, (cyc ps n (b : Int)).length = k + 1 := ⟨(cyc ps n (b : Int)).length - 1, by omega⟩
      rw [hk] at e
      rw [e]; exact B k
    have nb' := cyc_next h.p' (by omega) a1 bin
    rw [Int.toNat_natCast, h.eb] at nb'
    have A : ∀ m, it ps (a : Int) m ∈ cyc ps' n a := by
      intro m
      induction m with
      | zero => exact cyc_self h.p' (by omega) a1
      | succ m ih =>
        have mm := it_in h.p (f := (a : Int)) (by omega) a1 m
        have mc := (mem_cyc h.p (f := (a : Int)) (by omega) a1).2 ⟨m, rfl⟩
        show ps.getD (it ps a m).toNat 0 ∈ _
        generalize it ps (a : Int) m = z at *
        by_cases e1 : z = a
        · subst e1; rw [Int.toNat_natCast]; exact nb'
        · rw [← h.other mm.1 mm.2 e1 (fun e => hd (e ▸ mc))]
          exact cyc_next h.p' (by omega) a1 ih
    rintro (q | q)
    · obtain ⟨m, rfl⟩ := (mem_cyc h.p (by omega) a1).1 q; exact A m
    · obtain ⟨m, rfl⟩ := (mem_cyc h.p (by omega) b1).1 q
      cases m with
      | zero => exact bin
      | succ m => exact B m
/-- Elsewhere cycles stay. -/
theorem Xch.away {n a b : Nat} {ps ps' : List Int} (h : Xch n ps ps' a b) {f : Int} (f0 : 0 ≤ f) (f1 : f < n) (ha : ¬ f ∈ cyc ps n a) (hb : ¬ f ∈ cyc ps n b) (x : Int) : x ∈ cyc ps' n f ↔ x ∈ cyc ps n f := by
  have a1 : (a : Int) < n := by have := h.ha; omega
  have b1 : (b : Int) < n := by have := h.hb; omega
  have e : ∀ m, it ps' f m = it ps f m := by
    intro m
    induction m with
    | zero => rfl
    | succ m ih =>
      have mm := it_in h.p f0 f1 m
      have mc := (mem_cyc h.p f0 f1).2 ⟨m, rfl⟩
      show ps'.getD (it ps' f m).toNat 0 = ps.getD (it ps f m).toNat 0
      rw [ih]
      generalize it ps f m = z at *
      refine h.other mm.1 mm.2 (fun e => ha ?_) (fun e => hb ?_)
      · subst e; exact cyc_symm h.p f0 f1 mc
      · subst e; exact cyc_symm h.p f0 f1 mc
  rw [mem_cyc h.p' f0 f1, mem_cyc h.p f0 f1]
  simp only [e]
/-- Two elements of one cycle come into different ones. -/
theorem Xch.split {n a b : Nat} {ps ps' : List Int} (h : Xch n ps ps' a b) (hd : (b : Int) ∈ cyc ps n a) : ¬ (b : Int) ∈ cyc ps' n a := by
  have a1 : (a : Int) < n := by have := h.ha; omega
  have wa := cyc_way (f := (a : Int)) h.p (by omega) a1
  obtain ⟨k, hk, ek⟩ := mem_getD hd
  have ek' := way_it wa k hk
  rw [ek] at ek'
  have lst := way_last wa
  have k0 : 0 < k := by
    rcases Nat.eq_zero_or_pos k with e | e
    · subst e; rw [wa.head] at ek; exact absurd (by omega) h.ne
    · exact e
  have key : ∀ m, ∃ j, k < j ∧ j ≤ (cyc ps n (a : Int)).length ∧ it ps' a m = it ps a j := by
    intro m
    induction m with
    | zero => exact ⟨_, hk, Nat.le_refl _, lst⟩
    | succ m ih =>
      obtain ⟨j, j1, j2, e⟩ := ih
      by_cases jl : j = (cyc ps n (a : Int)).length
      · refine ⟨k + 1, by omega, by omega, ?_⟩
        show ps'.getD (it ps' a m).toNat 0 = ps.getD (it ps a k).toNat 0
        rw [e, jl, ← lst, ← ek', Int.toNat_natCast, Int.toNat_natCast, h.ea]
      · refine ⟨j + 1, by omega, by omega, ?_⟩
        show ps'.getD (it ps' a m).toNat 0 = ps.getD (it ps a j).toNat 0
        rw [e]
        have mm := it_in h.p (f := (a : Int)) (by omega) a1 j
        have gj := way_it wa j (by omega)
        refine h.other mm.1 mm.2 (fun q => ?_) (fun q => ?_)
        · have := nodup_getD wa.inn.nd (i := j) (j := 0) (by omega) (by omega) (by rw [gj, q, wa.head]); omega
        · have := nodup_getD wa.inn.nd (i := j) (j := k) (by omega) hk (by rw [gj, q, ek]); omega
  intro q
  obtain ⟨m, e⟩ := (mem_cyc h.p' (by omega) a1).1 q
  obtain ⟨j, j1, j2, e2⟩ := key m
  rw [e] at e2
  by_cases jl : j = (cyc ps n (a : Int)).length
  · rw [jl, ← lst] at e2; exact h.ne (by omega)
  · have gj := way_it wa j (by omega)
    have := nodup_getD wa.inn.nd (i := j) (j := k) (by omega) hk (by rw [gj, ← e2, ek]); omega
def cnum (ps : List Int) (n : Nat) : Nat := (cso ps n n).length
theorem Xch.plus {n a b : Nat} {ps ps' : List Int} (h : Xch n ps ps' a b) (hd : ¬ (b : Int) ∈ cyc ps n a) : cnum ps n = cnum ps' n + 1 := by
  have a1 : (a : Int) < n := by have := h.ha; omega
  have b1 : (b : Int) < n := by have := h.hb; omega
  have dis : ∀ x, x ∈ cyc ps n (a : Int) → ¬ x ∈ cyc ps n (b : Int) := fun x qa qb => hd (cyc_trans h.p (by omega) a1 qa (cyc_symm h.p (by omega) b1 qb))
  unfold cnum
  rw [cso_count h.p n (Nat.le_refl _), cso_count h.p' n (Nat.le_refl _)]
  rw [countP_part (mn ps n) (fun x => decide (x ∈ cyc ps n a)), one_least h.p (by omega) a1]
  rw [countP_part (fun x => mn ps n x && !decide (x ∈ cyc ps n (a : Int))) (fun x => decide (x ∈ cyc ps n b))]
  rw [countP_part (mn ps' n) (fun x => decide (x ∈ cyc ps' n a)), one_least h.p' (by omega) a1]
  have e1 : (rng n).countP (fun x => (mn ps n x && !decide (x ∈ cyc ps n (a : Int))) && decide (x ∈ cyc ps n (b : Int))) = 1 := by
    rw [← one_least h.p (a := (b : Int)) (by omega) b1]
    refine List.countP_congr fun x _ => ?_
    simp only [Bool.and_eq_true, Bool.not_eq_true', decide_eq_true_eq, decide_eq_false_iff_not]
    exact ⟨fun q => ⟨q.1.1, q.2⟩, fun q => ⟨⟨q.1, fun r => dis x r q.2⟩, q.2⟩⟩
  have e2 : (rng n).countP (fun x => (mn ps n x && !decide (x ∈ cyc ps n (a : Int))) && !decide (x ∈ cyc ps n (b : Int))) = (rng n).countP (fun x => mn ps' n x && !decide (x ∈ cyc ps' n (a : Int))) := by
    refine List.countP_congr fun x hx => ?_
    rw [mem_rng] at hx
    simp only [Bool.and_eq_true, Bool.not_eq_true', decide_eq_true_eq, decide_eq_false_iff_not, h.merge hd x, mn]
    constructor
    · rintro ⟨⟨q1, q2⟩, q3⟩
      exact ⟨fun y hy => q1 y ((h.away hx.1 hx.2 q2 q3 y).1 hy), fun r => r.elim q2 q3⟩
    · rintro ⟨q1, q2⟩
      have n1 : ¬ x ∈ cyc ps n (a : Int) := fun r => q2 (.inl r)
      have n2 : ¬ x ∈ cyc ps n (b : Int) := fun r => q2 (.inr r)
      exact ⟨⟨fun y hy => q1 y ((h.away hx.1 hx.2 n1 n2 y).2 hy), n1⟩, n2⟩
  rw [e1, e2]
  omega
/-- The number of cycles changes its parity. -/
theorem Xch.parity {n a b : Nat} {ps ps' : List Int} (h : Xch n ps ps' a b) : (cnum ps n + cnum ps' n) % 2 = 1 := by
  by_cases hd : (b : Int) ∈ cyc ps n a
  · have := h.symm.plus (h.split hd); omega
  · have := h.plus hd; omega
end Go.Proofs.YtpmojmhamgcfmaaGreat.pm
