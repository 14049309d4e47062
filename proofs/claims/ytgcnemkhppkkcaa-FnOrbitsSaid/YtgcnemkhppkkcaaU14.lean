import Derived.Test.YtgcnemkhppkkcaaU10
import Derived.Test.YtgcnemkhppkkcaaU04
import Derived.Test.YtgcnemkhppkkcaaU13
import Derived.Test.YtgcnemkhppkkcaaU12
import Derived.Test.YtgcnemkhppkkcaaU11
import Derived.Great.BuildSlice
namespace Go.Proofs.Ytgcnemkhppkkcaa.orb
open pm
set_option linter.unusedVariables false
set_option maxRecDepth 100000
theorem ren_thn {n : Nat} {X Y P : List Int} (h : Ren n X Y P) (lx : X.length = n) (lp : P.length = n) : thn X P = thn P Y := by
  refine list_eq n (by rw [thn_len]; exact lx) (by rw [thn_len]; exact lp) fun i hi => ?_
  rw [thn_at (by omega), thn_at (by omega)]
  exact (h.eq i hi).symm
theorem conj_inv {n : Nat} {X Y P : List Int} (x : Ok X) (y : Ok Y) (p : Ok P) (lx : X.length = n) (ly : Y.length = n) (lp : P.length = n) (h : thn X P = thn P Y) : thn (Inv X) P = thn P (Inv Y) := by
  have ix := Inv_ok x
  have lix : (Inv X).length = n := by rw [Inv_len]; exact lx
  have e1 : P = thn (Inv X) (thn P Y) := by rw [← h, ← thn_assoc ix (by rw [lix, lx]), Inv_thn_self x lx, id_thn lp]
  have o1 : Ok (thn (Inv X) P) := thn_ok ix p (by rw [lix, lp])
  have e2 : thn P (Inv Y) = thn (thn (Inv X) (thn P Y)) (Inv Y) := by rw [← e1]
  rw [e2, ← thn_assoc ix (by rw [lix, lp]), thn_assoc o1 (by rw [thn_len, lix, ly]), thn_Inv y ly, thn_id o1 (by rw [thn_len]; exact lix)]
theorem conj_thn {n : Nat} {X Y X' Y' P : List Int} (x : Ok X) (p : Ok P) (x' : Ok X') (lx : X.length = n) (lp : P.length = n) (lx' : X'.length = n) (ly : Y.length = n) (ly' : Y'.length = n) (h : thn X P = thn P X') (h' : thn Y P = thn P Y') : thn (thn X Y) P = thn P (thn X' Y') := by
  rw [thn_assoc x (by rw [lx, ly]), h', ← thn_assoc x (by rw [lx, lp]), h, thn_assoc p (by rw [lp, lx'])]
theorem let_iso {n : Nat} {R U R' U' ns : List Int} (h : Iso n R U R' U' ns) (s' : Sf n R' U') (c : UInt8) : Iso n (letS c (R, U)).1 (letS c (R, U)).2 (letS c (R', U')).1 (letS c (R', U')).2 ns := by
  have s := h.s
  have a1 := ren_thn h.r s.lr h.ln
  have a2 := ren_thn h.u s.lu h.ln
  have i1 := conj_inv s.r s'.r h.okn s.lr s'.lr h.ln a1
  have i2 := conj_inv s.u s'.u h.okn s.lu s'.lu h.ln a2
  have li1 : (Inv R).length = n := by rw [Inv_len]; exact s.lr
  have li1' : (Inv R').length = n := by rw [Inv_len]; exact s'.lr
  have li2 : (Inv U).length = n := by rw [Inv_len]; exact s.lu
  have li2' : (Inv U').length = n := by rw [Inv_len]; exact s'.lu
  have t := letS_sf s c
  have t' := letS_sf s' c
  unfold letS at t t' ⊢
  split
  · rename_i e
    rw [if_pos e] at t t'
    exact ⟨t, h.okn, h.ln, h.r, ren_of t.u t'.u h.okn t.lu t'.lu h.ln (conj_thn (Inv_ok s.r) h.okn (Inv_ok s'.r) li1 h.ln li1' s.lu s'.lu i1 a2)⟩
  · rename_i e
    rw [if_neg e] at t t'
    split
    · rename_i e2
      rw [if_pos e2] at t t'
      exact ⟨t, h.okn, h.ln, h.r, ren_of t.u t'.u h.okn t.lu t'.lu h.ln (conj_thn s.r h.okn s'.r s.lr h.ln s'.lr s.lu s'.lu a1 a2)⟩
    · rename_i e2
      rw [if_neg e2] at t t'
      split
      · rename_i e3
        rw [if_pos e3] at t t'
        exact ⟨t, h.okn, h.ln, ren_of t.r t'.r h.okn t.lr t'.lr h.ln i2, h.r⟩
      · rename_i e3
        rw [if_neg e3] at t t'
        exact ⟨t, h.okn, h.ln, h.u, ren_of t.u t'.u h.okn t.lu t'.lu h.ln i1⟩
theorem cn_let {n : Nat} {s : Sur} (h : Sf n s.1 s.2) (c : UInt8) : cn (letS c (cn s)) = cn (letS c s) := by
  obtain ⟨R, U⟩ := s
  obtain ⟨ns, i, s'⟩ := h.can_iso
  have e : cn (R, U) = can R U n := by unfold cn; rw [h.lr]
  rw [e]
  have j := let_iso i s' c
  have k := letS_sf h c
  have k' := letS_sf s' c
  have := j.can_eq k'
  unfold cn
  rw [k.lr, k'.lr]
  exact this
theorem cn_cn {n : Nat} {s : Sur} (h : Sf n s.1 s.2) : cn (cn s) = cn s := by
  obtain ⟨R, U⟩ := s
  obtain ⟨ns, i, s'⟩ := h.can_iso
  have e : cn (R, U) = can R U n := by unfold cn; rw [h.lr]
  rw [e]
  unfold cn
  rw [s'.lr]
  exact i.can_eq s'
theorem stp_cn_eq {n : Nat} {s : Sur} (h : Sf n s.1 s.2) (c : UInt8) : stp c (cn s) = cn (letS c s) := cn_let h c
theorem runS_append (v w : List UInt8) (s : Sur) : runS (v ++ w) s = runS w (runS v s) := by simp [runS, List.foldl_append]
theorem cn_run {n : Nat} : ∀ (w : List UInt8) {s : Sur}, Sf n s.1 s.2 → cn (runS w (cn s)) = cn (runS w s) := by
  intro w
  have key : ∀ (w : List UInt8) (s t : Sur), Sf n s.1 s.2 → Sf n t.1 t.2 → cn s = cn t → cn (runS w s) = cn (runS w t) := by
    intro w
    induction w with
    | nil => intro s t _ _ e; exact e
    | cons c w ih =>
      intro s t hs ht e
      refine ih (letS c s) (letS c t) (letS_sf hs c) (letS_sf ht c) ?_
      rw [← cn_let hs c, ← cn_let ht c, e]
  intro s hs
  exact key w _ _ (cn_sf hs) hs (cn_cn hs)
theorem g_sub_len {α : Type} [DecidableEq α] : ∀ (l m : List α), l.Nodup → (∀ x ∈ l, x ∈ m) → l.length ≤ m.length := by
  intro l
  induction l with
  | nil => intros; simp
  | cons a t ih =>
    intro m hd hs
    have hd' := List.nodup_cons.1 hd
    have ha := hs a (by simp)
    have := ih (m.erase a) hd'.2 (fun x hx => (List.mem_erase_of_ne (fun (e : x = a) => hd'.1 (by rw [← e]; exact hx))).2 (hs x (by simp [hx])))
    rw [List.length_erase_of_mem ha] at this
    have : 0 < m.length := List.length_pos_of_mem ha
    simp
    omega
theorem g_sub_mem {α : Type} [DecidableEq α] {l m : List α} (hl : l.Nodup) (hs : ∀ x ∈ l, x ∈ m) (hlen : m.length ≤ l.length) {y : α} (hy : y ∈ m) : y ∈ l := by
  by_cases h : y ∈ l
  · exact h
  · have := g_sub_len (y :: l) m (List.nodup_cons.2 ⟨h, hl⟩) (fun x hx => by
      rcases List.mem_cons.1 hx with rfl | hx
      · exact hy
      · exact hs x hx)
    simp at this
    omega
theorem map_nodup {α β : Type} {f : α → β} : ∀ {l : List α}, l.Nodup → (∀ x ∈ l, ∀ y ∈ l, f x = f y → x = y) → (l.map f).Nodup
  | [], _, _ => by simp
  | a :: l, h, hf => by
    obtain ⟨h1, h2⟩ := List.nodup_cons.1 h
    rw [List.map_cons]
    refine List.nodup_cons.2 ⟨fun hm => ?_, map_nodup h2 (fun x hx y hy => hf x (List.mem_cons_of_mem _ hx) y (List.mem_cons_of_mem _ hy))⟩
    obtain ⟨y, hy, e⟩ := List.mem_map.1 hm
    have := hf a (by simp) y (List.mem_cons_of_mem _ hy) e.symm
    exact h1 (this ▸ hy)
theorem onto_self {α : Type} [DecidableEq α] {l : List α} {f : α → α} (hl : l.Nodup) (hf : ∀ x ∈ l, ∀ y ∈ l, f x = f y → x = y) (hm : ∀ x ∈ l, f x ∈ l) {y : α} (hy : y ∈ l) : ∃ x ∈ l, f x = y := by
  have := g_sub_mem (l := l.map f) (m := l) (map_nodup hl hf) (fun x hx => by obtain ⟨z, hz, rfl⟩ := List.mem_map.1 hx; exact hm z hz) (by simp) hy
  obtain ⟨x, hx, e⟩ := List.mem_map.1 this
  exact ⟨x, hx, e⟩
structure Oj (n : Nat) (s : Sur) (k : Nat) (q : LW) : Prop where
  oi : Oi n q
  head : q.1[0]? = some (cn s)
  word : ∀ (i : Nat) (w : List UInt8) (x : Sur), q.2[i]? = some w → q.1[i]? = some x → w.all isL = true ∧ x = cn (runS w s)
  nd : q.1.Nodup
  cl : ∀ (i : Nat) (x : Sur), i < k → q.1[i]? = some x → stp 84 x ∈ q.1 ∧ stp 83 x ∈ q.1
theorem Oj.start {n : Nat} {s : Sur} (h : Sf n s.1 s.2) : Oj n s 0 ([cn s], [[]]) :=
  ⟨Oi.start h, rfl, fun i w x hw hx => by
    cases i with
    | zero => simp at hw hx; subst hw; subst hx; exact ⟨rfl, rfl⟩
    | succ i => simp at hw, by simp, fun i x hi => absurd hi (by omega)⟩
theorem snoc_at {α : Type} {l : List α} {a x : α} {i : Nat} (h : (l ++ [a])[i]? = some x) : l[i]? = some x ∨ (i = l.length ∧ x = a) := by
  rw [List.getElem?_append] at h
  split at h
  · exact .inl h
  · rcases Nat.eq_zero_or_pos (i - l.length) with e | e
    · rw [e] at h; simp at h; exact .inr ⟨by omega, h.symm⟩
    · rw [List.getElem?_eq_none (by simp; omega)] at h; cases h
theorem Oj.add {n k : Nat} {s : Sur} {q : LW} (hs : Sf n s.1 s.2) (h : Oj n s k q) (hk : k < q.1.length) {c : UInt8} (hc : isL c = true) : Oj n s k (addL k c q) ∧ (∀ x, q.1[k]? = some x → stp c x ∈ (addL k c q).1) := by
  obtain ⟨x, w, h1, h2, h3, h4, h5, h6⟩ := h.oi.at hk
  have hoi := h.oi.add hk c
  by_cases hm : stp c x ∈ q.1
  · have e : addL k c q = q := by unfold addL; rw [h2, if_pos hm]
    rw [e]
    exact ⟨h, fun y hy => by rw [h1] at hy; obtain rfl := Option.some.inj hy; exact hm⟩
  · have e : addL k c q = (q.1 ++ [stp c x], q.2 ++ [w ++ [c]]) := by unfold addL; rw [h2, h5, if_neg hm]
    rw [e] at hoi ⊢
    obtain ⟨w1, w2⟩ := h.word k w x h4 h1
    have hl := h.oi.len
    refine ⟨⟨hoi, ?_, fun i v y hv hy => ?_, ?_, fun i y hi hy => ?_⟩, fun y hy => ?_⟩
    · show (q.1 ++ [stp c x])[0]? = _
      rw [List.getElem?_append_left (by omega)]; exact h.head
    · rcases snoc_at hv with a | ⟨a, rfl⟩ <;> rcases snoc_at hy with b | ⟨b, rfl⟩
      · exact h.word i v y a b
      · have := (List.getElem?_eq_some_iff.1 a).1; omega
      · have := (List.getElem?_eq_some_iff.1 b).1; omega
      · refine ⟨by simp [w1, hc], ?_⟩
        rw [runS_snoc, w2]
        exact stp_cn_eq (runS_sf w s hs) c
    · show (q.1 ++ [stp c x]).Nodup
      rw [List.nodup_append]
      refine ⟨h.nd, by simp, fun a ha b hb => ?_⟩
      simp at hb
      subst hb
      intro e'
      exact hm (e' ▸ ha)
    · rcases snoc_at hy with b | ⟨b, _⟩
      · obtain ⟨c1, c2⟩ := h.cl i y hi b
        exact ⟨List.mem_append_left _ c1, List.mem_append_left _ c2⟩
      · omega
    · rw [h1] at hy
      obtain rfl := Option.some.inj hy
      exact List.mem_append_right _ (by simp)
theorem Oj.two {n k : Nat} {s : Sur} {q : LW} (hs : Sf n s.1 s.2) (h : Oj n s k q) (hk : k < q.1.length) : Oj n s (k + 1) (two k q) := by
  obtain ⟨a1, a2⟩ := h.add hs hk (c := 84) (by decide)
  obtain ⟨r, er, _⟩ := addL_sub k 84 q
  have hk2 : k < (addL k 84 q).1.length := by rw [er]; simp; omega
  obtain ⟨b1, b2⟩ := a1.add hs hk2 (c := 83) (by decide)
  obtain ⟨r2, er2, _⟩ := addL_sub k 83 (addL k 84 q)
  refine ⟨b1.oi, b1.head, b1.word, b1.nd, fun i x hi hx => ?_⟩
  by_cases e : i = k
  · subst e
    have hq := List.getElem?_eq_getElem hk
    have hx1 : (addL i 84 q).1[i]? = some q.1[i] := by rw [er, List.getElem?_append_left hk]; exact hq
    have hx2 : (orb.two i q).1[i]? = some q.1[i] := by show (addL i 83 (addL i 84 q)).1[i]? = _; rw [er2, List.getElem?_append_left hk2]; exact hx1
    rw [hx2] at hx
    obtain rfl := Option.some.inj hx
    refine ⟨?_, b2 _ hx1⟩
    show _ ∈ (addL i 83 (addL i 84 q)).1
    rw [er2]
    exact List.mem_append_left _ (a2 _ hq)
  · exact b1.cl i x (by omega) hx
theorem orun_oj {n : Nat} {s : Sur} (hs : Sf n s.1 s.2) : ∀ (f k : Nat) (q q' : LW), Oj n s k q → orun f k q = some q' → Oj n s q'.1.length q'
  | 0, k, q, q', _, h => by simp [orun] at h
  | f + 1, k, q, q', hq, h => by
    unfold orun at h
    split at h
    · rename_i hk
      split at h
      · cases h
      · exact orun_oj hs f (k + 1) _ q' (hq.two hs hk) h
    · rename_i hk
      injection h with h
      subst h
      exact ⟨hq.oi, hq.head, hq.word, hq.nd, fun i x hi hx => hq.cl i x (by omega) hx⟩
theorem orb_oj {n : Nat} {s : Sur} {q : LW} (hs : Sf n s.1 s.2) (h : orb s = some q) : Oj n s q.1.length q := orun_oj hs 122 0 _ q (Oj.start hs) h
theorem nd_at {L : List Sur} (h : L.Nodup) {i j : Nat} {x : Sur} (hi : L[i]? = some x) (hj : L[j]? = some x) : i = j := by
  obtain ⟨h1, e1⟩ := List.getElem?_eq_some_iff.1 hi
  obtain ⟨h2, e2⟩ := List.getElem?_eq_some_iff.1 hj
  have hp := List.pairwise_iff_getElem.1 h
  rcases Nat.lt_trichotomy i j with q | q | q
  · exact absurd (e1.trans e2.symm) (hp i j h1 h2 q)
  · exact q
  · exact absurd (e2.trans e1.symm) (hp j i h2 h1 q)
theorem inL_isL {c : UInt8} (h : isL c = true) : isL (inL c) = true := by
  rcases isL_iff.1 h with e | e | e | e <;> simp [inL, isL, e]
theorem stp_back {n : Nat} {c : UInt8} (hc : isL c = true) {x : Sur} (hx : Sf n x.1 x.2) : stp (inL c) (stp c x) = cn x := by
  have : stp (inL c) (cn (letS c x)) = cn (letS (inL c) (letS c x)) := stp_cn_eq (letS_sf hx c) (inL c)
  rw [show stp c x = cn (letS c x) from rfl, this, letS_inv hx hc]
section
variable {n : Nat} {s : Sur} {q : LW} (hs : Sf n s.1 s.2) (h : Oj n s q.1.length q)
include hs h
theorem Oj.fix {x : Sur} (hx : x ∈ q.1) : cn x = x := by
  obtain ⟨i, hi, e⟩ := List.mem_iff_getElem.1 hx
  have hx' : q.1[i]? = some x := by rw [List.getElem?_eq_getElem hi, e]
  have hi2 : i < q.2.length := by rw [h.oi.len]; exact hi
  obtain ⟨_, w2⟩ := h.word i _ x (List.getElem?_eq_getElem hi2) hx'
  rw [w2]
  exact cn_cn (runS_sf _ s hs)
omit hs in
theorem Oj.step {c : UInt8} (hc : c = 84 ∨ c = 83) {x : Sur} (hx : x ∈ q.1) : stp c x ∈ q.1 := by
  obtain ⟨i, hi, e⟩ := List.mem_iff_getElem.1 hx
  obtain ⟨a, b⟩ := h.cl i x hi (by rw [List.getElem?_eq_getElem hi, e])
  rcases hc with rfl | rfl
  · exact a
  · exact b
theorem Oj.inj {c : UInt8} (hc : isL c = true) {x y : Sur} (hx : x ∈ q.1) (hy : y ∈ q.1) (e : stp c x = stp c y) : x = y := by
  have a := stp_back hc (h.oi.sf x hx)
  have b := stp_back hc (h.oi.sf y hy)
  rw [e, b, h.fix hs hx, h.fix hs hy] at a
  exact a.symm
theorem Oj.all {c : UInt8} (hc : isL c = true) {x : Sur} (hx : x ∈ q.1) : stp c x ∈ q.1 := by
  have key : ∀ d : UInt8, (d = 84 ∨ d = 83) → stp (inL d) x ∈ q.1 := fun d hd => by
    have hdl : isL d = true := by rcases hd with rfl | rfl <;> decide
    obtain ⟨y, hy, e⟩ := onto_self h.nd (f := stp d) (fun a ha b hb => h.inj hs hdl ha hb) (fun a ha => h.step hd ha) hx
    rw [← e, stp_back hdl (h.oi.sf y hy), h.fix hs hy]
    exact hy
  rcases isL_iff.1 hc with e | e | e | e
  · exact h.step (.inl (UInt8.toNat_inj.1 (by simpa using e))) hx
  · have := key 84 (.inl rfl)
    rwa [show inL 84 = c from UInt8.toNat_inj.1 (by simp [inL, e])] at this
  · exact h.step (.inr (UInt8.toNat_inj.1 (by simpa using e))) hx
  · have := key 83 (.inr rfl)
    rwa [show inL 83 = c from UInt8.toNat_inj.1 (by simp [inL, e])] at this
theorem Oj.reach : ∀ (w : List UInt8), w.all isL = true → cn (runS w s) ∈ q.1 := by
  have key : ∀ (w : List UInt8) (t : Sur), Sf n t.1 t.2 → cn t ∈ q.1 → w.all isL = true → cn (runS w t) ∈ q.1 := by
    intro w
    induction w with
    | nil => intro t _ ht _; exact ht
    | cons c w ih =>
      intro t hst ht hw
      simp only [List.all_cons, Bool.and_eq_true] at hw
      refine ih (letS c t) (letS_sf hst c) ?_ hw.2
      rw [← stp_cn_eq hst c]
      exact h.all hs hw.1 ht
  intro w hw
  refine key w s hs ?_ hw
  have := h.head
  exact List.mem_of_getElem? this
omit hs in
theorem Oj.from {x : Sur} (hx : x ∈ q.1) : ∃ w, w.all isL = true ∧ x = cn (runS w s) := by
  obtain ⟨i, hi, e⟩ := List.mem_iff_getElem.1 hx
  have hi2 : i < q.2.length := by rw [h.oi.len]; exact hi
  obtain ⟨w1, w2⟩ := h.word i _ x (List.getElem?_eq_getElem hi2) (by rw [List.getElem?_eq_getElem hi, e])
  exact ⟨_, w1, w2⟩
theorem Oj.mem {x : Sur} : x ∈ q.1 ↔ ∃ w, w.all isL = true ∧ x = cn (runS w s) :=
  ⟨h.from, fun ⟨w, h1, h2⟩ => h2 ▸ h.reach hs w h1⟩
end
theorem invW_isL {w : List UInt8} (h : w.all isL = true) : (invW w).all isL = true := by
  rw [List.all_eq_true] at *
  intro c hc
  unfold invW at hc
  rw [List.mem_reverse] at hc
  obtain ⟨d, hd, rfl⟩ := List.mem_map.1 hc
  exact inL_isL (h d hd)
theorem orb_same {n : Nat} {s t : Sur} {q q' : LW} (hs : Sf n s.1 s.2) (ht : Sf n t.1 t.2) (h : orb s = some q) (h' : orb t = some q') {v : List UInt8} (hv : v.all isL = true) (e : cn t = cn (runS v s)) : ∀ x, x ∈ q.1 ↔ x ∈ q'.1 := by
  have J := orb_oj hs h
  have J' := orb_oj ht h'
  have sv := runS_sf v s hs
  intro x
  rw [J.mem hs, J'.mem ht]
  constructor
  · rintro ⟨w, h1, rfl⟩
    refine ⟨invW v ++ w, by simp [invW_isL hv, h1], ?_⟩
    rw [runS_append, ← cn_run w (runS_sf _ t ht), ← cn_run (invW v) ht, e, cn_run (invW v) sv, runS_inv v s hv hs, cn_run w hs]
  · rintro ⟨w, h1, rfl⟩
    refine ⟨v ++ w, by simp [hv, h1], ?_⟩
    rw [runS_append, ← cn_run w ht, e, cn_run w sv]
theorem orb_len_eq {n : Nat} {s t : Sur} {q q' : LW} (hs : Sf n s.1 s.2) (ht : Sf n t.1 t.2) (h : orb s = some q) (h' : orb t = some q') {v : List UInt8} (hv : v.all isL = true) (e : cn t = cn (runS v s)) : q.1.length = q'.1.length := by
  have m := orb_same hs ht h h' hv e
  have a := g_sub_len q.1 q'.1 (orb_oj hs h).nd (fun x hx => (m x).1 hx)
  have b := g_sub_len q'.1 q.1 (orb_oj ht h').nd (fun x hx => (m x).2 hx)
  omega
end Go.Proofs.Ytgcnemkhppkkcaa.orb

namespace Go.Proofs.Ytgcnemkhppkkcaa.orb
open pm
set_option linter.unusedVariables false
set_option maxRecDepth 100000
def tup (m : Nat) : Nat → List (List Int)
  | 0 => [[]]
  | k + 1 => (rng m).flatMap fun x => (tup m k).map fun l => x :: l
theorem mem_tup {m : Nat} : ∀ {k : Nat} {l : List Int}, l.length = k → (∀ x ∈ l, 0 ≤ x ∧ x < m) → l ∈ tup m k
  | 0, l, h, _ => by
    have := List.eq_nil_of_length_eq_zero h
    subst this
    simp [tup]
  | k + 1, l, h, hx => by
    cases l with
    | nil => simp at h
    | cons a l =>
      unfold tup
      refine List.mem_flatMap.2 ⟨a, mem_rng.2 (hx a (by simp)), List.mem_map.2 ⟨l, mem_tup (by simpa using h) (fun x q => hx x (List.mem_cons_of_mem _ q)), rfl⟩⟩
def prm (n : Nat) : List (List Int) := (tup n n).filter okB
theorem mem_prm {n : Nat} {l : List Int} (h : Ok l) (hl : l.length = n) : l ∈ prm n := by
  refine List.mem_filter.2 ⟨mem_tup hl (fun x hx => ?_), h.b⟩
  obtain ⟨i, hi, rfl⟩ := List.mem_iff_getElem.1 hx
  have h1 := h.lo i hi; have h2 := h.hi i hi
  rw [List.getD_eq_getElem?_getD, List.getElem?_eq_getElem hi, Option.getD_some] at h1 h2
  omega
def frm (n : Nat) : List Sur := (prm n).flatMap fun R => ((prm n).filter fun U => transB R U && decide (cn (R, U) = (R, U))).map fun U => (R, U)
theorem mem_frm {n : Nat} {x : Sur} (h : Sf n x.1 x.2) (hc : cn x = x) : x ∈ frm n := by
  obtain ⟨R, U⟩ := x
  refine List.mem_flatMap.2 ⟨R, mem_prm h.r h.lr, List.mem_map.2 ⟨U, List.mem_filter.2 ⟨mem_prm h.u h.lu, ?_⟩, rfl⟩⟩
  have ht : transB R U = true := transB_iff.2 (by rw [h.lr]; exact h)
  simp [ht, hc]
set_option maxRecDepth 100000 in
theorem frm_few : ∀ n : Fin 5, (frm n.val).length ≤ 26 := by decide +kernel
theorem few_len {n k : Nat} {s : Sur} {q : LW} (hs : Sf n s.1 s.2) (hn : n ≤ 4) (h : Oj n s k q) : q.1.length ≤ 26 := by
  refine Nat.le_trans (g_sub_len q.1 (frm n) h.nd (fun x hx => ?_)) (frm_few ⟨n, by omega⟩)
  obtain ⟨i, hi, e⟩ := List.mem_iff_getElem.1 hx
  have hi2 : i < q.2.length := by rw [h.oi.len]; exact hi
  obtain ⟨_, w2⟩ := h.word i _ x (List.getElem?_eq_getElem hi2) (by rw [List.getElem?_eq_getElem hi, e])
  exact mem_frm (h.oi.sf x hx) (by rw [w2]; exact cn_cn (runS_sf _ s hs))
theorem orun_some {n : Nat} {s : Sur} (hs : Sf n s.1 s.2) (hn : n ≤ 4) : ∀ (f k : Nat) (q : LW), Oj n s k q → k ≤ q.1.length → 27 ≤ f + k → ∃ q', orun f k q = some q'
  | 0, k, q, h, hk, hf => by have := few_len hs hn h; omega
  | f + 1, k, q, h, hk, hf => by
    unfold orun
    by_cases h1 : k < q.1.length
    · rw [if_pos h1]
      have h2 := h.two hs h1
      have := few_len hs hn h2
      rw [if_neg (by omega)]
      obtain ⟨r, e, _⟩ := addL_sub k 84 q
      obtain ⟨r2, e2, _⟩ := addL_sub k 83 (addL k 84 q)
      refine orun_some hs hn f (k + 1) _ h2 ?_ (by omega)
      show _ ≤ (addL k 83 (addL k 84 q)).1.length
      rw [e2, e]
      simp; omega
    · rw [if_neg h1]
      exact ⟨q, rfl⟩
theorem orb_few {n : Nat} {s : Sur} (hs : Sf n s.1 s.2) (hn : n ≤ 4) : ∃ q, orb s = some q ∧ q.1.length ≤ 26 := by
  obtain ⟨q, e⟩ := orun_some hs hn 122 0 _ (Oj.start hs) (Nat.zero_le _) (by omega)
  exact ⟨q, e, few_len hs hn (orb_oj hs e)⟩
end Go.Proofs.Ytgcnemkhppkkcaa.orb

namespace Go.Proofs.Ytgcnemkhppkkcaa.rw
open Go.ChangeShapes Go.WideShapes Go.ChangeAt Go.RowKit
open mem ints arr pm permOk permOf inv fns sf gl mk lw la Go.Proofs.Ytgcnemkhppkkcaa.wd
set_option linter.unusedVariables false
set_option maxRecDepth 100000
def rwB (r u : List Int) (s : ByteArray) : Bool := transB r u && wok s
def rwR (r u : List Int) (s : ByteArray) : List Int := if rwB r u s then (runS s.data.toList (r, u)).1 else []
def rwU (r u : List Int) (s : ByteArray) : List Int := if rwB r u s then (runS s.data.toList (r, u)).2 else []
theorem rw_no {r u : List Int} {s : ByteArray} (h : rwB r u s = false) : rwR r u s = [] ∧ rwU r u s = [] := by simp [rwR, rwU, h]
theorem rw_yes {r u : List Int} {s : ByteArray} (h : rwB r u s = true) : rwR r u s = (runS s.data.toList (r, u)).1 ∧ rwU r u s = (runS s.data.toList (r, u)).2 := by simp [rwR, rwU, h]
theorem rwB_no2 {r u : List Int} {s : ByteArray} (h : wok s = false) : rwB r u s = false := by simp [rwB, h]
theorem rwB_wok {r u : List Int} {s : ByteArray} (h' : wok s = true) : rwB r u s = transB r u := by simp [rwB, h']
theorem rw_ac {r u : List Int} {s : ByteArray} (h : wok s = true) : acR (la.runN (nums s)) r u = rwR r u s ∧ acU (la.runN (nums s)) r u = rwU r u s := by
  have e : la.runN (nums s) = runS s.data.toList := funext fun q => runN_nums s.data.toList q (wok_all h)
  rw [e]; unfold acR acU rwR rwU; rw [rwB_wok h]; exact ⟨rfl, rfl⟩
set_option maxHeartbeats 1000000 in
theorem rw_impl (v : Value) (r u : List Int) (s : ByteArray) (hi : Nat) (w : World) (hx : Srd w hi v r u) (hn : r.length ≤ 1048576) (hm : u.length ≤ 1048576) (hs : s.size ≤ 1048576) :
    Calls sqp.prog 13 #[v, .string s] w fun e w' => ∃ g, e = .returned (.tuple #[g, .bool (rwB r u s)]) ∧ Svl w' w.heap.size w'.heap.size g (rwR r u s) (rwU r u s) ∧ Below w.heap.size w w' := by
  have HX := Lib.hid hx
  obtain ⟨P, n, c, Q, m, d, rfl, q1, q2, e1, e2, ht, HR⟩ := hx.open
  clear hx
  go_enter sqp.func13, sqp.ntmps13
  go_wp2_with fail
  refine (lets_any s _ hs).mono ?_
  rintro e w1 ⟨v1, L, rfl, ho, hL, b1⟩
  obtain ⟨A, lc, rfl⟩ := own_form ho
  have A0 := Lib.hid (((Arr.new w [.slice P n c, .slice Q m d] 25 rfl).alloc _).keep b1 (by simp <;> omega))
  have A1 := Lib.hid ((Arr.new _ [.slice none 0 0, .slice none 0 0] 25 (g := w.heap.size + 1) (by simp)).keep b1 (by simp))
  have hs1 : w.heap.size + 2 ≤ w1.heap.size := by have := b1.size; simpa using this
  have c0 := A0.out.cell (k := 0) rfl
  have c1 := A0.out.cell (k := 1) rfl
  have B1 : Hid (Below w.heap.size w w1) := Lib.hid ((((Below.refl _ _).alloc (Nat.le_refl _) _).alloc (by simp) _).trans (b1.mono (by simp <;> omega))); clear b1
  have RL := Lib.hid (Row.of_own ho).rd; have HL := Lib.hid hL; clear ho hL
  cases hq : wok s
  · have HQ := Lib.hid (rwB_no2 (r := r) (u := u) hq)
    obtain ⟨z1, z2⟩ := rw_no HQ.out
    have Z1 := Lib.hid z1; have Z2 := Lib.hid z2; clear z1 z2
    go_wp2_with (first | (refine wpList_build rfl 25 _ rfl [] rfl _ built2 ?_) | (refine wpList_store_row rfl 25 _ _ rfl (w.heap.size + 1) #[.slice none 0 0, .slice none 0 0] rfl rfl 25 #[.slice none 0 0, .slice none 0 0] A1.out size2 rfl (by simp [Value.oneCell']) ?_))
    exact bodyPost_ret (v := .tuple #[.agg #[.slice none 0 0, .slice none 0 0], .bool false]) (permOf.results_cell_tmp rfl _ _ (w.heap.size + 1) 25 #[.slice none 0 0, .slice none 0 0] (0, 0) _ _ rfl rfl A1.out.row sqp.underlying25 rfl size2) rfl (sb_nil Z1.out Z2.out HQ.out (below_setRow B1.out (by omega) _))
  · have HW := Lib.hid hq
    have hLn : L = nums s := by rw [HL.out, hq]; rfl
    subst hLn
    have h40 : (nums s).length ≤ 40 := by rw [nums_len]; exact wok_len hq
    have H3 : Hid (∀ l ∈ nums s, 0 ≤ l ∧ l ≤ 3) := Lib.hid (fun l hl => by
      obtain ⟨ch, hch, rfl⟩ := List.mem_map.1 hl
      rcases num_cases (List.all_eq_true.1 (wok_all hq) ch hch) with h | h | h | h <;> rw [h.2] <;> omega)
    obtain ⟨z1, z2⟩ := rw_ac (r := r) (u := u) hq
    have Z1 := Lib.hid z1; have Z2 := Lib.hid z2; have ZB := Lib.hid (rwB_wok (r := r) (u := u) hq); clear z1 z2
    clear hq HL
    generalize nums s = L at *
    go_wp2_with fail
    refine (sa_any _ r u A L.length lc L hi _ _ (HX.out.keep (B1.out.mono ht) (Nat.le_refl _)) hn hm RL.out (Nat.le_refl _) H3.out h40).mono ?_
    rintro e w2 ⟨g, rfl, sg, b1⟩
    rw [Z1.out, Z2.out] at sg
    rw [← ZB.out]
    obtain ⟨P3, c3, Q3, d3, rfl⟩ := sg.len
    have SG := Lib.hid sg; clear sg
    have s2 := b1.size
    replace A1 := Lib.hid (A1.out.keep b1 A1.out.lt)
    replace B1 := Lib.hid (B1.out.trans (b1.mono B1.out.size))
    clear b1 c0 c1 A0
    go_wp2_with (refine wpList_store_row rfl 25 _ _ rfl (w.heap.size + 1) #[.slice P3 (rwR r u s).length c3, .slice Q3 (rwU r u s).length d3] rfl rfl 25 #[.slice none 0 0, .slice none 0 0] A1.out size2 rfl (by simp [Value.oneCell']) ?_)
    exact bodyPost_ret (v := .tuple #[.agg #[.slice P3 (rwR r u s).length c3, .slice Q3 (rwU r u s).length d3], .bool (rwB r u s)]) (permOf.results_cell_tmp rfl _ _ (w.heap.size + 1) 25 #[.slice P3 (rwR r u s).length c3, .slice Q3 (rwU r u s).length d3] (0, 0) _ _ rfl rfl A1.out.row sqp.underlying25 rfl size2) rfl (by
      have := Svl.row SG.out (g := w.heap.size + 1) (by omega) #[.slice P3 (rwR r u s).length c3, .slice Q3 (rwU r u s).length d3]
      exact ⟨_, rfl, (by simpa using this.later (by omega)), below_setRow B1.out (by omega) _⟩)
end Go.Proofs.Ytgcnemkhppkkcaa.rw

namespace Go.Proofs.Ytgcnemkhppkkcaa.gl
open Go.ChangeShapes Go.WideShapes Go.ChangeAt Go.RowKit
open mem ints arr pm permOk permOf inv fns sf
set_option linter.unusedVariables false
set_option maxRecDepth 100000
def isoF (r u r' u' : List Int) : Bool := transB r u && (transB r' u' && sameF (can r u r.length).1 (can r u r.length).2 (can r' u' r'.length).1 (can r' u' r'.length).2)
theorem iso_no1 {r u r' u' : List Int} (h : transB r u = false) : isoF r u r' u' = false := by simp [isoF, h]
theorem iso_no2 {r u r' u' : List Int} (h : transB r' u' = false) : isoF r u r' u' = false := by simp [isoF, h]
theorem iso_yes {r u r' u' : List Int} (h : transB r u = true) (h' : transB r' u' = true) : isoF r u r' u' = sameF (can r u r.length).1 (can r u r.length).2 (can r' u' r'.length).1 (can r' u' r'.length).2 := by simp [isoF, h, h']
set_option maxHeartbeats 1000000 in
theorem eq_gl2 {p q p' q' : List Int} (hp : p.length = 24) (hq : q.length = 24) (hp' : p'.length = 24) (hq' : q'.length = 24) (n n' : Nat) (w : World) :
    (Op.equalIn 10000 62 (.agg (V (gl p q n)).toArray) (.agg (V (gl p' q' n')).toArray)).run sqp.prog w = .ok (decide (p = p' ∧ q = q' ∧ n = n')) w := by
  have hf : (sqp.prog.fieldsOf 62).toList.map (fun f => (f.name, f.type, f.offset)) = [("right", 60, 0), ("up", 60, 24), ("count", 3, 48)] := by kernel_rfl
  rw [run_equalIn_struct w 9999 _ _ _ (by kernel_rfl) (by kernel_rfl)]
  generalize (sqp.prog.fieldsOf 62).toList = fs at hf
  have hl : fs.length = 3 := by have := congrArg List.length hf; simpa using this
  match fs, hl, hf with
  | [f0, f1, f2], _, hf =>
    simp only [List.map_cons, List.map_nil, List.cons.injEq, Prod.mk.injEq, and_true] at hf
    obtain ⟨⟨a1, a2, a3⟩, ⟨b1, b2, b3⟩, c1, c2, c3⟩ := hf
    have x1 : ∀ {r s : List Int} (n : Nat), r.length = 24 → s.length = 24 → (V (gl r s n)).toArray.extract 0 (0 + 24) = (V r).toArray := fun _ hr hs => V_ext (by simp [gl, hr])
    have x2 : ∀ {r s : List Int} (n : Nat), r.length = 24 → s.length = 24 → (V (gl r s n)).toArray.extract 24 (24 + 24) = (V s).toArray := fun _ hr hs => V_ext (by simp [gl, hr, hs])
    have x3 : ∀ {r s : List Int} (n : Nat), r.length = 24 → s.length = 24 → (V (gl r s n)).toArray[48]? = some (.int .i64 n) := fun _ hr hs => by
      simp only [gl, V, List.map_append, List.getElem?_toArray]
      rw [List.getElem?_append_right (by simp; omega)]
      simp [hr, hs]
    have e3 : (Op.equalIn 9999 3 (.int .i64 n) (.int .i64 n')).run sqp.prog w = .ok ((n : Int) == (n' : Int)) w := run_equalIn_int w 9998 _ .i64 .i64 _ _ sqp.underlying3
    have n1 : (("right" : String) ≠ "_") = True := by simp
    have n2 : (("up" : String) ≠ "_") = True := by simp
    have n3 : (("count" : String) ≠ "_") = True := by simp
    have e1' : (Op.equalIn 9999 60 (.agg (V p).toArray) (.agg (V p').toArray)).run sqp.prog w = .ok (decide (p = p')) w := eq_perm hp hp' 9997 w
    have e2' : (Op.equalIn 9999 60 (.agg (V q).toArray) (.agg (V q').toArray)).run sqp.prog w = .ok (decide (q = q')) w := eq_perm hq hq' 9997 w
    simp only [Op.eqFields, n1, n2, n3, if_true, a1, a2, a3, b1, b2, b3, c1, c2, c3, Sem.run_bind, part_perm, x1 n hp hq, x1 n' hp' hq', Result.andThen_ok, e1']
    by_cases h1 : p = p'
    · simp only [decide_eq_true h1, Bool.not_true, Bool.false_eq_true, if_false, Sem.run_bind, part_perm, x2 n hp hq, x2 n' hp' hq', Result.andThen_ok, e2']
      by_cases h2 : q = q'
      · simp only [decide_eq_true h2, Bool.not_true, Bool.false_eq_true, if_false, Sem.run_bind, part_int (x3 n hp hq), part_int (x3 n' hp' hq'), Result.andThen_ok, e3]
        by_cases h3 : n = n'
        · have : ((n : Int) == (n' : Int)) = true := by simp [h3]
          simp only [this, Bool.not_true, Bool.false_eq_true, if_false, Sem.run_pure]
          rw [decide_eq_true (show p = p' ∧ q = q' ∧ n = n' from ⟨h1, h2, h3⟩)]
        · have : ((n : Int) == (n' : Int)) = false := by simp; omega
          simp only [this, Bool.not_false, if_true, Sem.run_pure]
          rw [decide_eq_false (fun h => h3 h.2.2)]
      · simp only [decide_eq_false h2, Bool.not_false, if_true, Sem.run_pure]
        rw [decide_eq_false (fun h => h2 h.2.1)]
    · simp only [decide_eq_false h1, Bool.not_false, if_true, Sem.run_pure]
      rw [decide_eq_false (fun h => h1 h.1)]
theorem eq_cn {r u r' u' : List Int} {n n' : Nat} (h : 0 < n) (h' : 0 < n') (l : n ≤ 24) (l' : n' ≤ 24) (w : World) :
    (Op.equalIn 10000 62 (.agg (V (cn r u n)).toArray) (.agg (V (cn r' u' n')).toArray)).run sqp.prog w = .ok (sameF (can r u n).1 (can r u n).2 (can r' u' n').1 (can r' u' n').2) w := by
  unfold cn
  rw [eq_gl2 (ext_len _) (ext_len _) (ext_len _) (ext_len _)]
  obtain ⟨a1, a2⟩ := can_len r u h
  obtain ⟨b1, b2⟩ := can_len r' u' h'
  congr 1
  unfold sameF eqi
  rw [← Bool.decide_and, decide_eq_decide]
  constructor
  · rintro ⟨q1, q2, rfl⟩
    exact ⟨ext_inj (by rw [a1, b1]) (by omega) q1, ext_inj (by rw [a2, b2]) (by omega) q2⟩
  · rintro ⟨q1, q2⟩
    exact ⟨by rw [q1], by rw [q2], by rw [← a1, ← b1, q1]⟩
set_option maxHeartbeats 2000000 in
theorem iso_impl (x : Value) (r u : List Int) (y : Value) (r' u' : List Int) (h1 h2 : Nat) (w : World) (hx : Srd w h1 x r u) (hy : Srd w h2 y r' u') (hn : r.length ≤ 1048576) (hm : u.length ≤ 1048576) (hn' : r'.length ≤ 1048576) (hm' : u'.length ≤ 1048576) :
    Calls sqp.prog 16 #[x, y] w fun e w' => e = .returned (.bool (isoF r u r' u')) ∧ Below w.heap.size w w' := by
  have HX := Lib.hid hx; have HY := Lib.hid hy
  obtain ⟨P, n, c, Q, m, d, rfl, q1, q2, e1, e2, ht, HR⟩ := hx.open
  obtain ⟨P', n', c', Q', m', d', rfl, q1', q2', e1', e2', ht', HR'⟩ := hy.open
  have L1 := Lib.hid q1; have L1' := Lib.hid q1'
  clear hx hy HR HR'
  have B0 : Hid (∀ a b, Below w.heap.size w ((w.alloc a).alloc b)) := Lib.hid (fun a b => ((Below.refl _ _).alloc (Nat.le_refl _) _).alloc (by simp) _)
  go_enter sqp.func16, sqp.ntmps16
  go_wp2_with fail
  refine (gluingOf_any _ r u h1 _ (HX.out.keep ((B0.out _ _).mono ht) (Nat.le_refl _)) hn hm).mono ?_
  rintro e w1 ⟨rfl, b1⟩
  have A3 := Lib.hid ((Arr.new (w.alloc (.cells #[.slice P n c, .slice Q m d] 25)) [.slice P' n' c', .slice Q' m' d'] 25 (g := w.heap.size + 1) (by simp)).keep b1 (by simp <;> omega))
  have B1 : Hid (Below w.heap.size w w1) := Lib.hid ((B0.out _ _).trans (b1.mono (by simp <;> omega)))
  have hs1 : w.heap.size + 2 ≤ w1.heap.size := by have := b1.size; simpa using this
  clear b1
  go_wp2_with (first | (refine wpList_store_row rfl 62 _ _ rfl w1.heap.size (V (glv r u)).toArray rfl rfl 62 (V zero49).toArray (Arr.new w1 (V zero49) _ rfl) (size49 (glv_len _ _)) (by simp [V_len, glv_len, zero49]) (one_V _) ?_; generalize hwq : (w1.alloc (.cells #[.int .i64 0, .int .i64 0, .int .i64 0, .int .i64 0, .int .i64 0, .int .i64 0, .int .i64 0, .int .i64 0, .int .i64 0, .int .i64 0, .int .i64 0, .int .i64 0, .int .i64 0, .int .i64 0, .int .i64 0, .int .i64 0, .int .i64 0, .int .i64 0, .int .i64 0, .int .i64 0, .int .i64 0, .int .i64 0, .int .i64 0, .int .i64 0, .int .i64 0, .int .i64 0, .int .i64 0, .int .i64 0, .int .i64 0, .int .i64 0, .int .i64 0, .int .i64 0, .int .i64 0, .int .i64 0, .int .i64 0, .int .i64 0, .int .i64 0, .int .i64 0, .int .i64 0, .int .i64 0, .int .i64 0, .int .i64 0, .int .i64 0, .int .i64 0, .int .i64 0, .int .i64 0, .int .i64 0, .int .i64 0, .int .i64 0] 62)).setRow w1.heap.size (V (glv r u)).toArray = w2; have A5 : Hid (Arr w2 w1.heap.size (V (glv r u)) 62) := Lib.hid (by rw [← hwq]; exact (Arr.new w1 (V zero49) _ rfl).row); have b1 : Below w1.heap.size w1 w2 := (by rw [← hwq]; exact arr.below_setRow ((Below.refl _ _).alloc (Nat.le_refl _) _) (Nat.le_refl _) _); have tw2 := b1.size; replace A3 := Lib.hid (A3.out.keep b1 A3.out.lt); replace B1 := Lib.hid (B1.out.trans (b1.mono B1.out.size)); clear hwq b1; have c0 := A3.out.cell (k := 0) rfl; have c1 := A3.out.cell (k := 1) rfl) | fail)
  refine (gluingOf_any _ r' u' h2 _ (HY.out.keep (B1.out.mono ht') (Nat.le_refl _)) hn' hm').mono ?_
  rintro e w3 ⟨rfl, b1⟩
  have hs3 := b1.size
  replace A5 := Lib.hid (A5.out.keep b1 A5.out.lt)
  replace B1 := Lib.hid (B1.out.trans (b1.mono B1.out.size))
  clear b1 A3 c0 c1
  cases hq : transB r u
  · have HF := Lib.hid (iso_no1 (r' := r') (u' := u') hq)
    go_wp2_with (first | (refine wpList_store_row rfl 62 _ _ rfl w3.heap.size (V (glv r' u')).toArray rfl rfl 62 (V zero49).toArray (Arr.new w3 (V zero49) _ rfl) (size49 (glv_len _ _)) (by simp [V_len, glv_len, zero49]) (one_V _) ?_; generalize hwq : (w3.alloc (.cells #[.int .i64 0, .int .i64 0, .int .i64 0, .int .i64 0, .int .i64 0, .int .i64 0, .int .i64 0, .int .i64 0, .int .i64 0, .int .i64 0, .int .i64 0, .int .i64 0, .int .i64 0, .int .i64 0, .int .i64 0, .int .i64 0, .int .i64 0, .int .i64 0, .int .i64 0, .int .i64 0, .int .i64 0, .int .i64 0, .int .i64 0, .int .i64 0, .int .i64 0, .int .i64 0, .int .i64 0, .int .i64 0, .int .i64 0, .int .i64 0, .int .i64 0, .int .i64 0, .int .i64 0, .int .i64 0, .int .i64 0, .int .i64 0, .int .i64 0, .int .i64 0, .int .i64 0, .int .i64 0, .int .i64 0, .int .i64 0, .int .i64 0, .int .i64 0, .int .i64 0, .int .i64 0, .int .i64 0, .int .i64 0, .int .i64 0] 62)).setRow w3.heap.size (V (glv r' u')).toArray = w4; have A7 : Hid (Arr w4 w3.heap.size (V (glv r' u')) 62) := Lib.hid (by rw [← hwq]; exact (Arr.new w3 (V zero49) _ rfl).row); have b1 : Below w3.heap.size w3 w4 := (by rw [← hwq]; exact arr.below_setRow ((Below.refl _ _).alloc (Nat.le_refl _) _) (Nat.le_refl _) _); have tw4 := b1.size; replace A5 := Lib.hid (A5.out.keep b1 A5.out.lt); replace B1 := Lib.hid (B1.out.trans (b1.mono B1.out.size)); clear hwq b1) | fail)
    go_ret
    exact ⟨ret_bool HF.out.symm, B1.out⟩
  · cases hq' : transB r' u'
    · have HF := Lib.hid (iso_no2 (r := r) (u := u) hq')
      go_wp2_with (first | (refine wpList_store_row rfl 62 _ _ rfl w3.heap.size (V (glv r' u')).toArray rfl rfl 62 (V zero49).toArray (Arr.new w3 (V zero49) _ rfl) (size49 (glv_len _ _)) (by simp [V_len, glv_len, zero49]) (one_V _) ?_; generalize hwq : (w3.alloc (.cells #[.int .i64 0, .int .i64 0, .int .i64 0, .int .i64 0, .int .i64 0, .int .i64 0, .int .i64 0, .int .i64 0, .int .i64 0, .int .i64 0, .int .i64 0, .int .i64 0, .int .i64 0, .int .i64 0, .int .i64 0, .int .i64 0, .int .i64 0, .int .i64 0, .int .i64 0, .int .i64 0, .int .i64 0, .int .i64 0, .int .i64 0, .int .i64 0, .int .i64 0, .int .i64 0, .int .i64 0, .int .i64 0, .int .i64 0, .int .i64 0, .int .i64 0, .int .i64 0, .int .i64 0, .int .i64 0, .int .i64 0, .int .i64 0, .int .i64 0, .int .i64 0, .int .i64 0, .int .i64 0, .int .i64 0, .int .i64 0, .int .i64 0, .int .i64 0, .int .i64 0, .int .i64 0, .int .i64 0, .int .i64 0, .int .i64 0] 62)).setRow w3.heap.size (V (glv r' u')).toArray = w4; have A7 : Hid (Arr w4 w3.heap.size (V (glv r' u')) 62) := Lib.hid (by rw [← hwq]; exact (Arr.new w3 (V zero49) _ rfl).row); have b1 : Below w3.heap.size w3 w4 := (by rw [← hwq]; exact arr.below_setRow ((Below.refl _ _).alloc (Nat.le_refl _) _) (Nat.le_refl _) _); have tw4 := b1.size; replace A5 := Lib.hid (A5.out.keep b1 A5.out.lt); replace B1 := Lib.hid (B1.out.trans (b1.mono B1.out.size)); clear hwq b1) | fail)
      go_ret
      exact ⟨ret_bool HF.out.symm, B1.out⟩
    · have HF := Lib.hid (iso_yes hq hq')
      have HS : Hid (Sf n r u) := Lib.hid (by have := transB_iff.1 hq; rwa [L1.out] at this)
      have HS' : Hid (Sf n' r' u') := Lib.hid (by have := transB_iff.1 hq'; rwa [L1'.out] at this)
      have HG : Hid (glv r u = gl (ext r) (ext u) n) := Lib.hid (by rw [glv_yes hq, L1.out])
      have HG' : Hid (glv r' u' = gl (ext r') (ext u') n') := Lib.hid (by rw [glv_yes hq', L1'.out])
      have hn24 : n ≤ 24 := by have := HS.out.r.len; rwa [L1.out] at this
      have hn24' : n' ≤ 24 := by have := HS'.out.r.len; rwa [L1'.out] at this
      rw [L1.out, L1'.out] at HF
      rw [HG.out] at A5
      clear hq hq'
      go_wp2_with (first | (refine wpList_store_row rfl 62 _ _ rfl w3.heap.size (V (glv r' u')).toArray rfl rfl 62 (V zero49).toArray (Arr.new w3 (V zero49) _ rfl) (size49 (glv_len _ _)) (by simp [V_len, glv_len, zero49]) (one_V _) ?_; generalize hwq : (w3.alloc (.cells #[.int .i64 0, .int .i64 0, .int .i64 0, .int .i64 0, .int .i64 0, .int .i64 0, .int .i64 0, .int .i64 0, .int .i64 0, .int .i64 0, .int .i64 0, .int .i64 0, .int .i64 0, .int .i64 0, .int .i64 0, .int .i64 0, .int .i64 0, .int .i64 0, .int .i64 0, .int .i64 0, .int .i64 0, .int .i64 0, .int .i64 0, .int .i64 0, .int .i64 0, .int .i64 0, .int .i64 0, .int .i64 0, .int .i64 0, .int .i64 0, .int .i64 0, .int .i64 0, .int .i64 0, .int .i64 0, .int .i64 0, .int .i64 0, .int .i64 0, .int .i64 0, .int .i64 0, .int .i64 0, .int .i64 0, .int .i64 0, .int .i64 0, .int .i64 0, .int .i64 0, .int .i64 0, .int .i64 0, .int .i64 0, .int .i64 0] 62)).setRow w3.heap.size (V (glv r' u')).toArray = w4; have A7 : Hid (Arr w4 w3.heap.size (V (glv r' u')) 62) := Lib.hid (by rw [← hwq]; exact (Arr.new w3 (V zero49) _ rfl).row); have b1 : Below w3.heap.size w3 w4 := (by rw [← hwq]; exact arr.below_setRow ((Below.refl _ _).alloc (Nat.le_refl _) _) (Nat.le_refl _) _); have tw4 := b1.size; replace A5 := Lib.hid (A5.out.keep b1 A5.out.lt); replace B1 := Lib.hid (B1.out.trans (b1.mono B1.out.size)); clear hwq b1; rw [HG'.out] at A7) | (refine wpList_load_row rfl 62 (.tmp 5) rfl w1.heap.size rfl 62 (V (gl (ext r) (ext u) n)).toArray (0, 0) _ A5.out sqp.underlying62 rfl (size49 (gl_len (ext_len _) (ext_len _) _)) ?_) | fail)
      refine (canon_any r u n _ HS.out).mono ?_
      rintro e w5 ⟨B, D, mm, rfl, _, _, b1⟩
      have hs5 := b1.size
      replace A7 := Lib.hid (A7.out.keep b1 A7.out.lt)
      replace B1 := Lib.hid (B1.out.trans (b1.mono B1.out.size))
      clear b1 A5
      go_wp2_with (first | (refine wpList_store_row rfl 62 _ _ rfl w5.heap.size (V (cn r u n)).toArray rfl rfl 62 (V zero49).toArray (Arr.new w5 (V zero49) _ rfl) (size49 (cn_len _ _ _)) (by simp [V_len, cn_len, zero49]) (one_V _) ?_; generalize hwq : (w5.alloc (.cells #[.int .i64 0, .int .i64 0, .int .i64 0, .int .i64 0, .int .i64 0, .int .i64 0, .int .i64 0, .int .i64 0, .int .i64 0, .int .i64 0, .int .i64 0, .int .i64 0, .int .i64 0, .int .i64 0, .int .i64 0, .int .i64 0, .int .i64 0, .int .i64 0, .int .i64 0, .int .i64 0, .int .i64 0, .int .i64 0, .int .i64 0, .int .i64 0, .int .i64 0, .int .i64 0, .int .i64 0, .int .i64 0, .int .i64 0, .int .i64 0, .int .i64 0, .int .i64 0, .int .i64 0, .int .i64 0, .int .i64 0, .int .i64 0, .int .i64 0, .int .i64 0, .int .i64 0, .int .i64 0, .int .i64 0, .int .i64 0, .int .i64 0, .int .i64 0, .int .i64 0, .int .i64 0, .int .i64 0, .int .i64 0, .int .i64 0] 62)).setRow w5.heap.size (V (cn r u n)).toArray = w6; have A9 : Hid (Arr w6 w5.heap.size (V (cn r u n)) 62) := Lib.hid (by rw [← hwq]; exact (Arr.new w5 (V zero49) _ rfl).row); have b1 : Below w5.heap.size w5 w6 := (by rw [← hwq]; exact arr.below_setRow ((Below.refl _ _).alloc (Nat.le_refl _) _) (Nat.le_refl _) _); have tw6 := b1.size; replace A7 := Lib.hid (A7.out.keep b1 A7.out.lt); replace B1 := Lib.hid (B1.out.trans (b1.mono B1.out.size)); clear hwq b1) | (refine wpList_load_row rfl 62 (.tmp 7) rfl w3.heap.size rfl 62 (V (gl (ext r') (ext u') n')).toArray (0, 0) _ A7.out sqp.underlying62 rfl (size49 (gl_len (ext_len _) (ext_len _) _)) ?_) | fail)
      refine (canon_any r' u' n' _ HS'.out).mono ?_
      rintro e w7 ⟨B', D', mm', rfl, _, _, b1⟩
      have hs7 := b1.size
      replace A9 := Lib.hid (A9.out.keep b1 A9.out.lt)
      replace B1 := Lib.hid (B1.out.trans (b1.mono B1.out.size))
      clear b1 A7
      have EQ : Hid (∀ w, (Op.equalIn 10000 62 (.agg (V (cn r u n)).toArray) (.agg (V (cn r' u' n')).toArray)).run sqp.prog w = .ok (isoF r u r' u') w) := Lib.hid (fun w => by rw [HF.out]; exact eq_cn HS.out.pos HS'.out.pos hn24 hn24' w)
      go_wp2_with (first | (refine wpList_store_row rfl 62 _ _ rfl w7.heap.size (V (cn r' u' n')).toArray rfl rfl 62 (V zero49).toArray (Arr.new w7 (V zero49) _ rfl) (size49 (cn_len _ _ _)) (by simp [V_len, cn_len, zero49]) (one_V _) ?_; generalize hwq : (w7.alloc (.cells #[.int .i64 0, .int .i64 0, .int .i64 0, .int .i64 0, .int .i64 0, .int .i64 0, .int .i64 0, .int .i64 0, .int .i64 0, .int .i64 0, .int .i64 0, .int .i64 0, .int .i64 0, .int .i64 0, .int .i64 0, .int .i64 0, .int .i64 0, .int .i64 0, .int .i64 0, .int .i64 0, .int .i64 0, .int .i64 0, .int .i64 0, .int .i64 0, .int .i64 0, .int .i64 0, .int .i64 0, .int .i64 0, .int .i64 0, .int .i64 0, .int .i64 0, .int .i64 0, .int .i64 0, .int .i64 0, .int .i64 0, .int .i64 0, .int .i64 0, .int .i64 0, .int .i64 0, .int .i64 0, .int .i64 0, .int .i64 0, .int .i64 0, .int .i64 0, .int .i64 0, .int .i64 0, .int .i64 0, .int .i64 0, .int .i64 0] 62)).setRow w7.heap.size (V (cn r' u' n')).toArray = w8; have A11 : Hid (Arr w8 w7.heap.size (V (cn r' u' n')) 62) := Lib.hid (by rw [← hwq]; exact (Arr.new w7 (V zero49) _ rfl).row); have b1 : Below w7.heap.size w7 w8 := (by rw [← hwq]; exact arr.below_setRow ((Below.refl _ _).alloc (Nat.le_refl _) _) (Nat.le_refl _) _); have tw8 := b1.size; replace A9 := Lib.hid (A9.out.keep b1 A9.out.lt); replace B1 := Lib.hid (B1.out.trans (b1.mono B1.out.size)); clear hwq b1) | (refine wpList_load_row rfl 62 (.tmp 9) rfl w5.heap.size rfl 62 (V (cn r u n)).toArray (0, 0) _ A9.out sqp.underlying62 rfl (size49 (cn_len _ _ _)) ?_) | (refine wpList_load_row rfl 62 (.tmp 11) rfl w7.heap.size rfl 62 (V (cn r' u' n')).toArray (0, 0) _ A11.out sqp.underlying62 rfl (size49 (cn_len _ _ _)) ?_) | (refine wpList_eql_gl rfl _ _ _ rfl _ _ rfl rfl _ (EQ.out _) ?_) | fail)
      go_ret
      exact ⟨rfl, B1.out⟩
end Go.Proofs.Ytgcnemkhppkkcaa.gl

namespace Go.Proofs.Ytgcnemkhppkkcaa.orb
open pm sf gl Go.Proofs.Ytgcnemkhppkkcaa.rw Go.Proofs.Ytgcnemkhppkkcaa.wd
set_option linter.unusedVariables false
set_option maxRecDepth 100000
theorem tr_of {N : Nat} {r u : List Int} (s : Sf N r u) : transB r u = true := transB_iff.2 (by rw [s.lr]; exact s)
theorem cf_cn {N : Nat} {r u : List Int} (s : Sf N r u) : cfR r u = (cn (r, u)).1 ∧ cfU r u = (cn (r, u)).2 := by
  unfold cfR cfU cn
  rw [tr_of s]
  exact ⟨rfl, rfl⟩
theorem iso_cn {N : Nat} {r u r' u' : List Int} (s : Sf N r u) (s' : Sf N r' u') (e : cn (r, u) = cn (r', u')) : isoF r u r' u' = true := by
  rw [iso_yes (tr_of s) (tr_of s')]
  unfold cn at e
  rw [same_eq, decide_eq_true_iff]
  rw [Prod.mk.injEq]
  exact ⟨congrArg Prod.fst e, congrArg Prod.snd e⟩
theorem om_start {N : Nat} {r u : List Int} (s : Sf N r u) (h4 : N ≤ 4) :
    ∃ q, orb (r, u) = some q ∧ orbB r u = true ∧ orbL r u = q.1 ∧ idxF r u = q.1.length ∧ 0 < q.1.length ∧ q.1.length ≤ 26 := by
  obtain ⟨q, h1, h2⟩ := orb_few (s := (r, u)) s h4
  have hF : orbF r u = some q := by rw [orbF_yes (tr_of s), h1]
  obtain ⟨e1, e2⟩ := orbL_some hF
  refine ⟨q, h1, e2, e1, by rw [idxF, e2, e1]; rfl, ?_, h2⟩
  have := (orb_oj (s := (r, u)) s h1).head
  exact (List.getElem?_eq_some_iff.1 this).1
theorem wok_of {w : List UInt8} (h : w.all isL = true) (hl : w.length ≤ 40) : wok ⟨w.toArray⟩ = true := by
  have e : (⟨w.toArray⟩ : ByteArray).size = w.length := by show w.toArray.size = _; simp
  unfold wok
  rw [decide_eq_true (show (⟨w.toArray⟩ : ByteArray).size ≤ 40 by omega)]
  simpa using h
theorem om_x {N : Nat} {r u : List Int} {q : LW} (s : Sf N r u) (h4 : N ≤ 4) (h : orb (r, u) = some q) {z : Nat} {x : Sur} (hx : q.1[z]? = some x) :
    Sf N x.1 x.2 ∧ cfR x.1 x.2 = x.1 ∧ cfU x.1 x.2 = x.2 ∧ idxF x.1 x.2 = q.1.length ∧
      ∃ wd : List UInt8, owS r u x.1 x.2 = ⟨wd.toArray⟩ ∧ owB r u x.1 x.2 = true ∧ wd.length ≤ 40 ∧ rwB r u ⟨wd.toArray⟩ = true ∧ Sf N (rwR r u ⟨wd.toArray⟩) (rwU r u ⟨wd.toArray⟩) ∧ isoF (rwR r u ⟨wd.toArray⟩) (rwU r u ⟨wd.toArray⟩) x.1 x.2 = true := by
  have J := orb_oj (s := (r, u)) s h
  have hm := List.mem_of_getElem? hx
  have sx := J.oi.sf x hm
  have cx : cn (x.1, x.2) = x := J.fix (s := (r, u)) s hm
  obtain ⟨c1, c2⟩ := cf_cn sx
  rw [cx] at c1 c2
  obtain ⟨q', k1, k2, k3, k4, k5, k6⟩ := om_start sx h4
  have hzl := (List.getElem?_eq_some_iff.1 hx).1
  have hz2 : z < q.2.length := by rw [J.oi.len]; exact hzl
  have hw := List.getElem?_eq_getElem hz2
  obtain ⟨w1, w2⟩ := J.word z _ x hw hx
  have hq26 := few_len (s := (r, u)) s h4 J
  have hl := J.oi.wl z _ hw
  obtain ⟨k, f1, f2, f3⟩ := fnd_get hm
  obtain rfl : k = z := nd_at J.nd f3 hx
  generalize q.2[k] = wd at *
  have ewd : q.2.getD k [] = wd := by rw [List.getD_eq_getElem?_getD, hw]; rfl
  have hl40 : wd.length ≤ 40 := by omega
  have ho : owF r u x.1 x.2 = some wd := by
    unfold owF
    rw [tr_of s, tr_of sx]
    simp only [Bool.and_true, if_true, h]
    rw [cx, f1, if_neg (by omega), Int.toNat_natCast, ewd, if_neg (by omega)]
  have hk := wok_of w1 hl40
  have hrb : rwB r u ⟨wd.toArray⟩ = true := by unfold rwB; rw [tr_of s, hk]; rfl
  obtain ⟨r1, r2⟩ := rw_yes hrb
  have sr := runS_sf wd (r, u) s
  have e1 : rwR r u ⟨wd.toArray⟩ = (runS wd (r, u)).1 := by rw [r1]
  have e2 : rwU r u ⟨wd.toArray⟩ = (runS wd (r, u)).2 := by rw [r2]
  refine ⟨sx, c1, c2, ?_, wd, by unfold owS; rw [ho], by unfold owB; rw [ho]; rfl, hl40, hrb, by rw [e1, e2]; exact sr, ?_⟩
  · rw [k4]
    have hv : cn (x.1, x.2) = cn (runS wd (r, u)) := by rw [cx]; exact w2
    have := orb_len_eq (s := (r, u)) (t := (x.1, x.2)) s sx h k1 w1 hv
    omega
  · rw [e1, e2]
    refine iso_cn sr sx ?_
    rw [cx]
    exact w2.symm
theorem om_z {N : Nat} {r u : List Int} (s : Sf N r u) (h4 : N ≤ 4) {v : ByteArray} (hv : wok v = true) :
    rwB r u v = true ∧ Sf N (rwR r u v) (rwU r u v) ∧ soF r u (rwR r u v) (rwU r u v) = true ∧ soF (rwR r u v) (rwU r u v) r u = true := by
  have hrb : rwB r u v = true := by unfold rwB; rw [tr_of s, hv]; rfl
  obtain ⟨r1, r2⟩ := rw_yes hrb
  have st := runS_sf v.data.toList (r, u) s
  have hall : v.data.toList.all isL = true := by
    unfold wok at hv
    simp only [Bool.and_eq_true] at hv
    exact hv.2
  obtain ⟨q, a1, a2, a3, _, _, _⟩ := om_start s h4
  rw [r1, r2]
  obtain ⟨q', b1, b2, b3, _, _, _⟩ := om_start st h4
  have J := orb_oj (s := (r, u)) s a1
  have J' := orb_oj st b1
  refine ⟨hrb, st, ?_, ?_⟩
  · unfold soF
    rw [a2, tr_of st, a3]
    have hm : cn (runS v.data.toList (r, u)) ∈ q.1 := J.reach (s := (r, u)) s _ hall
    obtain ⟨k, f1, _, _⟩ := fnd_get hm
    simp only [Bool.and_true, Bool.true_and, decide_eq_true_eq]
    show 0 ≤ fnd q.1 (cn (runS v.data.toList (r, u)))
    rw [f1]; omega
  · unfold soF
    rw [b2, tr_of s, b3]
    have hm : cn (runS (invW v.data.toList) (runS v.data.toList (r, u))) ∈ q'.1 := J'.reach st _ (invW_isL hall)
    rw [runS_inv _ (r, u) hall s] at hm
    obtain ⟨k, f1, _, _⟩ := fnd_get hm
    simp only [Bool.and_true, Bool.true_and, decide_eq_true_eq]
    rw [f1]; omega
end Go.Proofs.Ytgcnemkhppkkcaa.orb

namespace Go.Proofs.Ytgcnemkhppkkcaa.orb
open Go.ChangeShapes Go.WideShapes Go.ChangeAt Go.RowKit
open mem ints arr pm sf gl
set_option linter.unusedVariables false
set_option maxRecDepth 100000
def gS (s : Sur) (n : Nat) : List Int := gl (ext s.1) (ext s.2) n
theorem gS_len (s : Sur) (n : Nat) : (gS s n).length = 49 := gl_len (ext_len _) (ext_len _) _
set_option maxHeartbeats 4000000 in
theorem form_any (r u : List Int) (n : Nat) (w : World) (hs : Sf n r u) :
    Calls sqp.prog 68 #[.agg (V (gl (ext r) (ext u) n)).toArray] w fun e w' => e = .returned (.agg (V (gS (cn (r, u)) n)).toArray) ∧ Below w.heap.size w w' := by
  have HS := Lib.hid hs; clear hs
  have HC : Hid (gl (ext (can r u n).1) (ext (can r u n).2) n = gS (cn (r, u)) n) := Lib.hid (by unfold gS cn; rw [HS.out.lr])
  have HL : (gS (cn (r, u)) n).length = 49 := gS_len _ _
  go_enter sqp.func68, sqp.ntmps68
  have G49 : (gl (ext r) (ext u) n).length = 49 := gl_len (ext_len _) (ext_len _) _
  go_wp2_with (first | (refine wpList_load_row rfl 62 _ rfl w.heap.size rfl 62 (V (gl (ext r) (ext u) n)).toArray (0, 0) _ ((Arr.new w _ _ rfl).alloc _) sqp.underlying62 rfl (size49 G49) ?_) | fail)
  generalize hw1 : (w.alloc (.cells (V (gl (ext r) (ext u) n)).toArray 62)).alloc (.cells #[.int .i64 0, .int .i64 0, .int .i64 0, .int .i64 0, .int .i64 0, .int .i64 0, .int .i64 0, .int .i64 0, .int .i64 0, .int .i64 0, .int .i64 0, .int .i64 0, .int .i64 0, .int .i64 0, .int .i64 0, .int .i64 0, .int .i64 0, .int .i64 0, .int .i64 0, .int .i64 0, .int .i64 0, .int .i64 0, .int .i64 0, .int .i64 0, .int .i64 0, .int .i64 0, .int .i64 0, .int .i64 0, .int .i64 0, .int .i64 0, .int .i64 0, .int .i64 0, .int .i64 0, .int .i64 0, .int .i64 0, .int .i64 0, .int .i64 0, .int .i64 0, .int .i64 0, .int .i64 0, .int .i64 0, .int .i64 0, .int .i64 0, .int .i64 0, .int .i64 0, .int .i64 0, .int .i64 0, .int .i64 0, .int .i64 0] 62) = w1
  have A1 : Hid (Arr w1 (w.heap.size + 1) (V zero49) 62) := Lib.hid (by rw [← hw1]; exact Arr.new _ (V zero49) _ (by simp))
  have B1 : Hid (Below w.heap.size w w1) := Lib.hid (by rw [← hw1]; exact ((Below.refl _ _).alloc (Nat.le_refl _) _).alloc (by simp) _)
  have s1 : w1.heap.size = w.heap.size + 2 := by rw [← hw1]; simp
  clear hw1
  refine (canon_any r u n _ HS.out).mono ?_
  rintro e w3 ⟨B, D, mm, rfl, _, _, b1⟩
  rw [HC.out]
  replace A1 := Lib.hid (A1.out.keep b1 A1.out.lt)
  replace B1 := Lib.hid (B1.out.trans (b1.mono B1.out.size))
  have hs3 := b1.size
  clear b1
  generalize hLL : gS (cn (r, u)) n = L at *
  go_wp2_with (first | (refine wpList_store_row rfl 62 _ _ rfl w3.heap.size (V (L)).toArray rfl rfl 62 (V zero49).toArray (Arr.new w3 (V zero49) _ rfl) (size49 HL) (by simp [V_len, HL, zero49]) (one_V _) ?_; generalize hw4 : (w3.alloc (.cells #[.int .i64 0, .int .i64 0, .int .i64 0, .int .i64 0, .int .i64 0, .int .i64 0, .int .i64 0, .int .i64 0, .int .i64 0, .int .i64 0, .int .i64 0, .int .i64 0, .int .i64 0, .int .i64 0, .int .i64 0, .int .i64 0, .int .i64 0, .int .i64 0, .int .i64 0, .int .i64 0, .int .i64 0, .int .i64 0, .int .i64 0, .int .i64 0, .int .i64 0, .int .i64 0, .int .i64 0, .int .i64 0, .int .i64 0, .int .i64 0, .int .i64 0, .int .i64 0, .int .i64 0, .int .i64 0, .int .i64 0, .int .i64 0, .int .i64 0, .int .i64 0, .int .i64 0, .int .i64 0, .int .i64 0, .int .i64 0, .int .i64 0, .int .i64 0, .int .i64 0, .int .i64 0, .int .i64 0, .int .i64 0, .int .i64 0] 62)).setRow w3.heap.size (V L).toArray = w4; have A3 : Hid (Arr w4 w3.heap.size (V L) 62) := Lib.hid (by rw [← hw4]; exact (Arr.new w3 (V zero49) _ rfl).row); have b1 : Below w3.heap.size w3 w4 := (by rw [← hw4]; exact arr.below_setRow ((Below.refl _ _).alloc (Nat.le_refl _) _) (Nat.le_refl _) _); have s4 := b1.size; replace A1 := Lib.hid (A1.out.keep b1 A1.out.lt); replace B1 := Lib.hid (B1.out.trans (b1.mono B1.out.size)); clear hw4 b1) | (refine wpList_load_row rfl 62 _ rfl w3.heap.size rfl 62 (V L).toArray (0, 0) _ A3.out sqp.underlying62 rfl (size49 HL) ?_) | (refine wpList_store_row rfl 62 _ _ rfl (w.heap.size + 1) (V (L)).toArray rfl rfl 62 (V zero49).toArray A1.out (size49 HL) (by simp [V_len, HL, zero49]) (one_V _) ?_) | fail)
  exact bodyPost_ret (v := .agg (V L).toArray) (results_cell_row rfl _ _ (w.heap.size + 1) 62 (V L).toArray (0, 0) _ rfl A1.out.row sqp.underlying62 rfl (size49 HL)) rfl ⟨by rw [← hLL], below_setRow B1.out (by omega) _⟩
end Go.Proofs.Ytgcnemkhppkkcaa.orb

namespace Go.Proofs.Ytgcnemkhppkkcaa.orb
open pm
set_option linter.unusedVariables false
set_option maxRecDepth 100000
def shN : Nat → Sur → Sur
  | 0, s => s
  | k + 1, s => shearS (shN k s)
end Go.Proofs.Ytgcnemkhppkkcaa.orb

namespace Go.Proofs.Ytgcnemkhppkkcaa.orb
open Go.ChangeShapes Go.WideShapes Go.ChangeAt Go.RowKit
open mem ints arr pm sf gl la
set_option linter.unusedVariables false
set_option maxRecDepth 100000
theorem rd_let (w : World) (z : Int) (g : Nat) (hg : w.heap.size = g) : Rd (w.alloc (.cells #[.int .i64 z] 63)) (g + 1) (some ⟨g, 0, none⟩) 1 (V [z]) := by
  subst hg
  have := Rd.of_cells (w := w.alloc (.cells #[.int .i64 z] 63)) (a := ⟨w.heap.size, 0, none⟩) (n := 1) (xs := V [z]) rfl (fun i hi => by
    obtain rfl : i = 0 := by omega
    exact (Arr.new w (V [z]) 63 rfl).cell rfl)
  simpa using this
theorem infoGl : (sqp.prog.info? 62).map (fun i => (i.zero, i.size, i.bytes)) = some (some (.agg #[.int .i64 0, .int .i64 0, .int .i64 0, .int .i64 0, .int .i64 0, .int .i64 0, .int .i64 0, .int .i64 0, .int .i64 0, .int .i64 0, .int .i64 0, .int .i64 0, .int .i64 0, .int .i64 0, .int .i64 0, .int .i64 0, .int .i64 0, .int .i64 0, .int .i64 0, .int .i64 0, .int .i64 0, .int .i64 0, .int .i64 0, .int .i64 0, .int .i64 0, .int .i64 0, .int .i64 0, .int .i64 0, .int .i64 0, .int .i64 0, .int .i64 0, .int .i64 0, .int .i64 0, .int .i64 0, .int .i64 0, .int .i64 0, .int .i64 0, .int .i64 0, .int .i64 0, .int .i64 0, .int .i64 0, .int .i64 0, .int .i64 0, .int .i64 0, .int .i64 0, .int .i64 0, .int .i64 0, .int .i64 0, .int .i64 0]), 49, 392) := by kernel_rfl
def fs (s : Sur) (n k : Nat) : List Value := (List.range k).flatMap fun j => V (gS (cn (shN j s)) n)
theorem eq_cn {n : Nat} {s t : Sur} (h1 : Sf n s.1 s.2) (h2 : Sf n t.1 t.2) (w : World) :
    (Op.equalIn 10000 62 (.agg (V (gS s n)).toArray) (.agg (V (gS t n)).toArray)).run sqp.prog w = .ok (decide (s = t)) w := by
  unfold gS
  rw [eq_gl (ext_len _) (ext_len _) (ext_len _) (ext_len _)]
  congr 1
  rw [decide_eq_decide]
  constructor
  · rintro ⟨q1, q2⟩
    have hn : n ≤ 24 := by have := h1.r.len; rw [h1.lr] at this; exact this
    exact Prod.ext (ext_inj (by rw [h1.lr, h2.lr]) (by rw [h1.lr]; exact hn) q1) (ext_inj (by rw [h1.lu, h2.lu]) (by rw [h1.lu]; exact hn) q2)
  · intro q; rw [q]; exact ⟨rfl, rfl⟩
theorem wpList_bs_gl {ops : Array Oper} {rest : List Oper} {o : Oper} {a : Act} {w : World} {Q : Exit → Act → World → Prop} (hgd : o.guard = none) (x : Operand) (ho : o.op = .buildSlice 90 1 #[(0, x)])
    (L : List Int) (hL : L.length = 49) (hx : a.eval x = .agg (V L).toArray)
    (h : wpList sqp.prog ops Q rest (a.put o.dst (.slice (some ⟨w.heap.size, 0, none⟩) 1 1)) (w.alloc (.cells (V L).toArray 62))) : wpList sqp.prog ops Q (o :: rest) a w := by
  obtain ⟨i, hi, hz, hs, hb⟩ := info_parts infoGl
  refine wpList_buildSlice hgd 90 62 1 _ ho (V L).toArray i _ sqp.underlying90 hi hz (by rw [hs]; decide) (by rw [hs]; decide) ?_ h
  rw [hs]
  have := Great.fill_whole (s := 49) (by decide) [.agg (V L).toArray] ((Array.range (1 * 49)).map ((Value.agg #[.int .i64 0, .int .i64 0, .int .i64 0, .int .i64 0, .int .i64 0, .int .i64 0, .int .i64 0, .int .i64 0, .int .i64 0, .int .i64 0, .int .i64 0, .int .i64 0, .int .i64 0, .int .i64 0, .int .i64 0, .int .i64 0, .int .i64 0, .int .i64 0, .int .i64 0, .int .i64 0, .int .i64 0, .int .i64 0, .int .i64 0, .int .i64 0, .int .i64 0, .int .i64 0, .int .i64 0, .int .i64 0, .int .i64 0, .int .i64 0, .int .i64 0, .int .i64 0, .int .i64 0, .int .i64 0, .int .i64 0, .int .i64 0, .int .i64 0, .int .i64 0, .int .i64 0, .int .i64 0, .int .i64 0, .int .i64 0, .int .i64 0, .int .i64 0, .int .i64 0, .int .i64 0, .int .i64 0, .int .i64 0, .int .i64 0]).cells[· % (Value.agg #[.int .i64 0, .int .i64 0, .int .i64 0, .int .i64 0, .int .i64 0, .int .i64 0, .int .i64 0, .int .i64 0, .int .i64 0, .int .i64 0, .int .i64 0, .int .i64 0, .int .i64 0, .int .i64 0, .int .i64 0, .int .i64 0, .int .i64 0, .int .i64 0, .int .i64 0, .int .i64 0, .int .i64 0, .int .i64 0, .int .i64 0, .int .i64 0, .int .i64 0, .int .i64 0, .int .i64 0, .int .i64 0, .int .i64 0, .int .i64 0, .int .i64 0, .int .i64 0, .int .i64 0, .int .i64 0, .int .i64 0, .int .i64 0, .int .i64 0, .int .i64 0, .int .i64 0, .int .i64 0, .int .i64 0, .int .i64 0, .int .i64 0, .int .i64 0, .int .i64 0, .int .i64 0, .int .i64 0, .int .i64 0, .int .i64 0]).cells.size]!)) (by simp [Value.cells, V_len, hL]) (by simp)
  simpa [hx, Value.cells] using this
theorem form_gS (s : Sur) (n : Nat) (w : World) (hs : Sf n s.1 s.2) :
    Calls sqp.prog 68 #[.agg (V (gS s n)).toArray] w fun e w' => e = .returned (.agg (V (gS (cn s) n)).toArray) ∧ Below w.heap.size w w' := form_any s.1 s.2 n w hs
def slen : Value → Nat
  | .slice _ n _ => n
  | _ => 0
end Go.Proofs.Ytgcnemkhppkkcaa.orb
