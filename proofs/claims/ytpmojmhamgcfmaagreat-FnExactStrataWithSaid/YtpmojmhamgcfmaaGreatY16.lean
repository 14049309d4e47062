import Derived.Test.YtpmojmhamgcfmaaGreatY01
import Derived.Test.YtpmojmhamgcfmaaGreatY15
import Derived.Deep.AppendLies
/-
  Slices of slices of ints: rows of headers, each with a row of its own; the laws' helpers eqIntSS, markIntSS, heldIntSS.
-/
namespace Go.Proofs.YtpmojmhamgcfmaaGreat.mat
open Go.ChangeShapes Go.WideShapes Go.ChangeAt Go.RowKit
open Go.Proofs.YtpmojmhamgcfmaaGreat.mem Go.Proofs.YtpmojmhamgcfmaaGreat.ints
set_option linter.unusedVariables false
set_option maxRecDepth 100000

/-- The headers hs have the rows xss; those that are not empty lie in different blocks bl i, from lo on and below hi, none of them in ex. -/
structure Hs (w : World) (lo hi : Nat) (ex : Nat → Prop) (bl : Nat → Nat) (hs : List Value) (xss : List (List Int)) : Prop where
  len : hs.length = xss.length
  top : hi ≤ w.heap.size
  row : ∀ i xs, xss[i]? = some xs → ∃ A c, hs[i]? = some (.slice A xs.length c) ∧ (0 < xs.length → lo ≤ bl i ∧ bl i < hi ∧ ¬ ex (bl i) ∧ Row w (bl i) (bl i + 1) A xs.length (V xs))
  ne : ∀ i j xs ys, xss[i]? = some xs → xss[j]? = some ys → 0 < xs.length → 0 < ys.length → i ≠ j → bl i ≠ bl j

theorem Row.block {w w' : World} {g n : Nat} {A : Option Addr} {xs : List Value} (h : Row w g (g + 1) A n xs) (hb : w'.heap[g]? = w.heap[g]?) (hs : w.heap.size ≤ w'.heap.size) : Row w' g (g + 1) A n xs := by
  refine ⟨h.1, Nat.le_trans h.2.1 hs, fun hn => ?_⟩
  obtain ⟨g', off, e, h1, h2, hc⟩ := h.2.2 hn
  obtain rfl : g' = g := by omega
  refine ⟨g', off, e, h1, h2, fun j hj => ?_⟩
  rw [World.cell?_of_block (w := w) (a := ⟨g', off + j, none⟩) hb, World.frozen?_of_block (w := w) (a := ⟨g', off + j, none⟩) hb]
  exact hc j hj
theorem Hs.keep {w w' : World} {lo hi : Nat} {ex : Nat → Prop} {bl : Nat → Nat} {hs : List Value} {xss : List (List Int)} (h : Hs w lo hi ex bl hs xss) (hs' : w.heap.size ≤ w'.heap.size)
    (hk : ∀ b, lo ≤ b → b < hi → ¬ ex b → w'.heap[b]? = w.heap[b]?) : Hs w' lo hi ex bl hs xss := by
  refine ⟨h.len, Nat.le_trans h.top hs', fun i xs hx => ?_, h.ne⟩
  obtain ⟨A, c, e, hr⟩ := h.row i xs hx
  refine ⟨A, c, e, fun hp => ?_⟩
  obtain ⟨h1, h2, h3, h4⟩ := hr hp
  exact ⟨h1, h2, h3, Row.block h4 (hk _ h1 h2 h3) hs'⟩
theorem Hs.nil (w : World) (lo hi : Nat) (ex : Nat → Prop) (bl : Nat → Nat) (h : hi ≤ w.heap.size) : Hs w lo hi ex bl [] [] :=
  ⟨rfl, h, fun i xs hx => by simp at hx, fun i j xs ys hx => by simp at hx⟩
theorem Hs.exs {w : World} {lo hi : Nat} {ex ex' : Nat → Prop} {bl : Nat → Nat} {hs : List Value} {xss : List (List Int)} (h : Hs w lo hi ex bl hs xss) (he : ∀ b, lo ≤ b → b < hi → ¬ ex b → ¬ ex' b) : Hs w lo hi ex' bl hs xss := by
  refine ⟨h.len, h.top, fun i xs hx => ?_, h.ne⟩
  obtain ⟨A, c, e, hr⟩ := h.row i xs hx
  exact ⟨A, c, e, fun hp => ⟨(hr hp).1, (hr hp).2.1, he _ (hr hp).1 (hr hp).2.1 (hr hp).2.2.1, (hr hp).2.2.2⟩⟩
theorem Hs.wider {w : World} {lo hi lo' hi' : Nat} {ex : Nat → Prop} {bl : Nat → Nat} {hs : List Value} {xss : List (List Int)} (h : Hs w lo hi ex bl hs xss) (h0 : lo' ≤ lo) (h1 : hi ≤ hi') (h2 : hi' ≤ w.heap.size) : Hs w lo' hi' ex bl hs xss := by
  refine ⟨h.len, h2, fun i xs hx => ?_, h.ne⟩
  obtain ⟨A, c, e, hr⟩ := h.row i xs hx
  exact ⟨A, c, e, fun hp => ⟨by have := (hr hp).1; omega, by have := (hr hp).2.1; omega, (hr hp).2.2⟩⟩
theorem Hs.snoc {w : World} {lo hi : Nat} {ex : Nat → Prop} {bl : Nat → Nat} {hs : List Value} {xss : List (List Int)} (h : Hs w lo hi ex bl hs xss) {g c : Nat} {A : Option Addr} {xs : List Int} (hg : hi ≤ g) (hlo : lo ≤ hi) (hx : ¬ ex g) (hr : Row w g (g + 1) A xs.length (V xs)) :
    Hs w lo (g + 1) ex (fun i => if i = xss.length then g else bl i) (hs ++ [.slice A xs.length c]) (xss ++ [xs]) := by
  have hl := h.len
  refine ⟨by simp [hl], hr.2.1, fun i ys hy => ?_, fun i j ys zs hy hz y0 z0 hij => ?_⟩
  · rw [List.getElem?_append] at hy
    by_cases hi' : i < xss.length
    · rw [if_pos hi'] at hy
      obtain ⟨A', c', e, hr'⟩ := h.row i ys hy
      refine ⟨A', c', ?_, fun hp => ?_⟩
      · rw [List.getElem?_append_left (by omega)]; exact e
      · rw [if_neg (by omega)]
        obtain ⟨q1, q2, q3, q4⟩ := hr' hp
        exact ⟨q1, by omega, q3, q4⟩
    · rw [if_neg hi'] at hy
      have e0 : i = xss.length := by
        rcases Nat.lt_or_ge (i - xss.length) 1 with q | q
        · omega
        · rw [List.getElem?_eq_none (by simpa using q)] at hy; cases hy
      subst e0
      simp at hy
      subst hy
      refine ⟨A, c, ?_, fun hp => ?_⟩
      · rw [List.getElem?_append_right (by omega), hl]; simp
      · rw [if_pos rfl]
        exact ⟨by omega, by omega, hx, hr⟩
  · have hlt : ∀ (q : Nat) (us : List Int), (xss ++ [xs])[q]? = some us → q ≠ xss.length → xss[q]? = some us := by
      intro q us hq hne
      rw [List.getElem?_append] at hq
      by_cases hq' : q < xss.length
      · rw [if_pos hq'] at hq; exact hq
      · rw [if_neg hq', List.getElem?_eq_none (by simp; omega)] at hq; cases hq
    by_cases e1 : i = xss.length
    · by_cases e2 : j = xss.length
      · omega
      · simp only [if_pos e1, if_neg e2]
        obtain ⟨A', c', e, hr'⟩ := h.row j zs (hlt j zs hz e2)
        have := (hr' z0).2.1
        omega
    · by_cases e2 : j = xss.length
      · simp only [if_pos e2, if_neg e1]
        obtain ⟨A', c', e, hr'⟩ := h.row i ys (hlt i ys hy e1)
        have := (hr' y0).2.1
        omega
      · simp only [if_neg e1, if_neg e2]
        exact h.ne i j ys zs (hlt i ys hy e1) (hlt j zs hz e2) y0 z0 hij
/-- A row, alone: where it may be written. -/
theorem Hs.one {w : World} {lo hi : Nat} {ex : Nat → Prop} {bl : Nat → Nat} {hs : List Value} {xss : List (List Int)} (h : Hs w lo hi ex bl hs xss) {i : Nat} {xs : List Int} (hx : xss[i]? = some xs) :
    ∃ A c l u, hs[i]? = some (.slice A xs.length c) ∧ Row w l u A xs.length (V xs) ∧ (0 < xs.length → lo ≤ l ∧ u ≤ hi ∧ l = bl i ∧ u = l + 1 ∧ ¬ ex l) ∧ (xs.length = 0 → l = 0 ∧ u = 0) := by
  obtain ⟨A, c, e, hr⟩ := h.row i xs hx
  rcases Nat.eq_zero_or_pos xs.length with h0 | h0
  · refine ⟨A, c, 0, 0, e, ⟨by simp [V], Nat.zero_le _, fun q => by omega⟩, fun q => by omega, fun _ => ⟨rfl, rfl⟩⟩
  · obtain ⟨q1, q2, q3, q4⟩ := hr h0
    exact ⟨A, c, bl i, bl i + 1, e, q4, fun _ => ⟨q1, by omega, rfl, rfl, q3⟩, fun q => by omega⟩
theorem Hs.set_ {w w' : World} {lo hi : Nat} {ex : Nat → Prop} {bl : Nat → Nat} {hs : List Value} {xss : List (List Int)} (h : Hs w lo hi ex bl hs xss) {i l u c : Nat} {A : Option Addr} {xs ys : List Int} (hx : xss[i]? = some xs) (hl : ys.length = xs.length)
    (he : hs[i]? = some (.slice A xs.length c)) (hp : 0 < xs.length → lo ≤ l ∧ u ≤ hi ∧ l = bl i ∧ u = l + 1 ∧ ¬ ex l) (hr : Row w' l u A xs.length (V ys)) (ho : Out l u w w') (h0 : xs.length = 0 → l = 0 ∧ u = 0) : Hs w' lo hi ex bl hs (xss.set i ys) := by
  have hi' : i < xss.length := (List.getElem?_eq_some_iff.1 hx).1
  have key : ∀ j zs, (xss.set i ys)[j]? = some zs → ∃ zs0, xss[j]? = some zs0 ∧ zs0.length = zs.length ∧ (j ≠ i → zs0 = zs) := by
    intro j zs hz
    by_cases e : j = i
    · subst e
      rw [List.getElem?_set_self hi'] at hz
      obtain rfl := Option.some.inj hz
      exact ⟨xs, hx, hl.symm, fun q => absurd rfl q⟩
    · rw [List.getElem?_set_ne (by omega)] at hz
      exact ⟨zs, hz, rfl, fun _ => rfl⟩
  refine ⟨by simp [h.len], Nat.le_trans h.top ho.size, fun j zs hz => ?_, fun j k zs us hz hu z0 u0 hjk => ?_⟩
  · by_cases e : j = i
    · subst e
      rw [List.getElem?_set_self hi'] at hz
      obtain rfl := Option.some.inj hz
      refine ⟨A, c, by rw [hl]; exact he, fun q => ?_⟩
      rw [hl] at q
      obtain ⟨a1, a2, a3, a4, a5⟩ := hp q
      subst a4; subst a3
      exact ⟨a1, by omega, a5, by rw [hl]; exact hr⟩
    · rw [List.getElem?_set_ne (by omega)] at hz
      obtain ⟨A', c', e', hr'⟩ := h.row j zs hz
      refine ⟨A', c', e', fun q => ?_⟩
      obtain ⟨a1, a2, a3, a4⟩ := hr' q
      refine ⟨a1, a2, a3, Row.block a4 (ho.block _ (by have := h.top; omega) ?_) ho.size⟩
      rcases Nat.eq_zero_or_pos xs.length with x0 | x0
      · obtain ⟨b1, b2⟩ := h0 x0; right; omega
      · obtain ⟨b1, b2, b3, b4, b5⟩ := hp x0
        have := h.ne i j xs zs hx hz x0 q (by omega)
        omega
  · obtain ⟨z1, a1, a2, _⟩ := key j zs hz
    obtain ⟨u1, b1, b2, _⟩ := key k us hu
    exact h.ne j k z1 u1 a1 b1 (by omega) (by omega) hjk

/-- '.slice A n c' reads as the rows xss; all of it lies from lo on and below hi, each row in a block of its own. -/
def Mat (w : World) (lo hi : Nat) (A : Option Addr) (n : Nat) (xss : List (List Int)) : Prop :=
  xss.length = n ∧ hi ≤ w.heap.size ∧ ∃ hs bl G, Hs w lo hi (fun b => b = G) bl hs xss ∧ (0 < n → lo ≤ G ∧ G < hi ∧ Row w G (G + 1) A n hs)
theorem Mat.keep {w w' : World} {lo hi n B : Nat} {A : Option Addr} {xss : List (List Int)} (h : Mat w lo hi A n xss) (hb : Below B w w') (hB : hi ≤ B) : Mat w' lo hi A n xss := by
  obtain ⟨h1, h2, hs, bl, G, h3, h4⟩ := h
  refine ⟨h1, Nat.le_trans h2 hb.size, hs, bl, G, h3.keep hb.size (fun b _ q _ => hb.block b (by omega)), fun hn => ?_⟩
  obtain ⟨q1, q2, q3⟩ := h4 hn
  exact ⟨q1, q2, Row.block q3 (hb.block G (by omega)) hb.size⟩
theorem Mat.out {w w' : World} {lo hi lo' hi' n : Nat} {A : Option Addr} {xss : List (List Int)} (h : Mat w lo hi A n xss) (ho : Out lo' hi' w w') (hd : hi ≤ lo' ∨ hi' ≤ lo) : Mat w' lo hi A n xss := by
  obtain ⟨h1, h2, hs, bl, G, h3, h4⟩ := h
  refine ⟨h1, Nat.le_trans h2 ho.size, hs, bl, G, h3.keep ho.size (fun b p q _ => ho.block b (by omega) (by omega)), fun hn => ?_⟩
  obtain ⟨q1, q2, q3⟩ := h4 hn
  exact ⟨q1, q2, Row.block q3 (ho.block G (by omega) (by omega)) ho.size⟩
theorem Mat.wider {w : World} {lo hi lo' hi' n : Nat} {A : Option Addr} {xss : List (List Int)} (h : Mat w lo hi A n xss) (h0 : lo' ≤ lo) (h1 : hi ≤ hi') (h2 : hi' ≤ w.heap.size) : Mat w lo' hi' A n xss := by
  obtain ⟨a1, a2, hs, bl, G, h3, h4⟩ := h
  refine ⟨a1, h2, hs, bl, G, h3.wider h0 h1 h2, fun hn => ?_⟩
  obtain ⟨q1, q2, q3⟩ := h4 hn
  exact ⟨by omega, by omega, q3⟩
theorem Mat.nil (w : World) (lo hi : Nat) (A : Option Addr) (h : hi ≤ w.heap.size) : Mat w lo hi A 0 [] := ⟨rfl, h, [], fun _ => 0, 0, Hs.nil _ _ _ _ _ h, fun q => by omega⟩
theorem Mat.at_ {w : World} {lo hi n k : Nat} {A : Option Addr} {xss : List (List Int)} (h : Mat w lo hi A n xss) (hk : k < n) :
    ∃ G off A' c xs l u, A = some ⟨G, off, none⟩ ∧ xss[k]? = some xs ∧ w.cell? ⟨G, off + k, none⟩ = some (.slice A' xs.length c) ∧ Row w l u A' xs.length (V xs) ∧
      (∀ w' ys, ys.length = xs.length → Row w' l u A' xs.length (V ys) → Out l u w w' → Mat w' lo hi A n (xss.set k ys) ∧ Out lo hi w w') := by
  obtain ⟨h1, h2, hs, bl, G, h3, h4⟩ := h
  obtain ⟨q1, q2, q3⟩ := h4 (by omega)
  have hx : xss[k]? = some xss[k] := List.getElem?_eq_getElem (by omega)
  obtain ⟨A', c, l, u, e, hr, hp, hz⟩ := h3.one hx
  obtain ⟨g, off, v, rfl, g1, g2, hv, hc, _⟩ := q3.at_ hk
  obtain rfl : g = G := by omega
  rw [e] at hv
  obtain rfl := Option.some.inj hv
  refine ⟨g, off, A', c, xss[k], l, u, rfl, hx, hc, hr, fun w' ys hl hr' ho => ?_⟩
  refine ⟨⟨by simpa using h1, Nat.le_trans h2 ho.size, hs, bl, g, h3.set_ hx hl e hp hr' ho hz, fun _ => ⟨q1, q2, Row.block q3 (ho.block _ (by omega) ?_) ho.size⟩⟩, ?_⟩
  · rcases Nat.eq_zero_or_pos (xss[k]).length with x0 | x0
    · obtain ⟨b1, b2⟩ := hz x0; right; omega
    · obtain ⟨b1, b2, b3, b4, b5⟩ := hp x0; omega
  · rcases Nat.eq_zero_or_pos (xss[k]).length with x0 | x0
    · obtain ⟨b1, b2⟩ := hz x0
      exact ⟨ho.os, ho.tape, ho.output, ho.size, fun j hj _ => ho.block j hj (by omega)⟩
    · obtain ⟨b1, b2, b3, b4, b5⟩ := hp x0
      exact ho.wider b1 b2

def tot (xss : List (List Int)) : Nat := (xss.map List.length).sum
theorem tot_row {xss : List (List Int)} {k : Nat} {xs : List Int} (h : xss[k]? = some xs) : xs.length ≤ tot xss := by
  have hm := List.mem_of_getElem? h
  clear h
  unfold tot
  induction xss with
  | nil => simp at hm
  | cons a t ih =>
    rcases List.mem_cons.1 hm with rfl | hm
    · simp
    · have := ih hm; simp; omega
theorem tot_take {xss : List (List Int)} {k : Nat} {xs : List Int} (h : xss[k]? = some xs) : tot (xss.take (k + 1)) = tot (xss.take k) + xs.length := by
  unfold tot; rw [List.take_add_one, h]; simp
theorem tot_le (xss : List (List Int)) (k : Nat) : tot (xss.take k) ≤ tot xss := by
  have : tot xss = tot (xss.take k) + tot (xss.drop k) := by
    unfold tot; rw [← List.sum_append, ← List.map_append, List.take_append_drop]
  omega
def eqm (xss yss : List (List Int)) : Bool := decide (xss = yss)
theorem eqm_self (xss : List (List Int)) : eqm xss xss = true := by simp [eqm]
def SameM (xss yss : List (List Int)) (k : Nat) : Prop := ∀ j, j < k → xss[j]? = yss[j]?
theorem eqm_no {xss yss : List (List Int)} {k : Nat} {xs ys : List Int} (h1 : xss[k]? = some xs) (h2 : yss[k]? = some ys) (h : eqi xs ys = false) : eqm xss yss = false := by
  unfold eqm; rw [decide_eq_false_iff_not]; rintro rfl
  rw [h1] at h2
  obtain rfl := Option.some.inj h2
  simp [eqi] at h
theorem eqm_len {xss yss : List (List Int)} (h : xss.length ≠ yss.length) : eqm xss yss = false := by
  unfold eqm; rw [decide_eq_false_iff_not]; rintro rfl; exact h rfl
theorem eqm_yes {xss yss : List (List Int)} {n : Nat} (h1 : xss.length = n) (h2 : yss.length = n) (h : SameM xss yss n) : eqm xss yss = true := by
  unfold eqm; rw [decide_eq_true_iff]
  refine List.ext_getElem? fun i => ?_
  by_cases hi : i < n
  · exact h i hi
  · rw [List.getElem?_eq_none (by omega), List.getElem?_eq_none (by omega)]
theorem SameM.step {xss yss : List (List Int)} {k : Nat} {xs ys : List Int} (h : SameM xss yss k) (h1 : xss[k]? = some xs) (h2 : yss[k]? = some ys) (he : eqi xs ys = true) : SameM xss yss (k + 1) := by
  intro j hj
  by_cases e : j = k
  · subst e
    have : xs = ys := by simpa [eqi] using he
    rw [h1, h2, this]
  · exact h j (by omega)

theorem drawn_trans {a b c : World} (h : Drawn a b) (k : Drawn b c) : Drawn a c := by
  obtain ⟨m, rfl⟩ := h; obtain ⟨n, rfl⟩ := k; exact ⟨m + n, by simp⟩
theorem drawn_rd {w w' : World} {hi n : Nat} {A : Option Addr} {xs : List Value} (h : Drawn w w') (r : Rd w hi A n xs) : Rd w' hi A n xs := by
  obtain ⟨m, rfl⟩ := h; exact r

theorem eq_quiet {A : Option Addr} {n c : Nat} {B : Option Addr} {m d : Nat} {xs ys : List Int} {h1 h2 : Nat} {w w' : World} (hw : Drawn w w') (q : Nat)
    (hx : Rd w h1 A n (V xs)) (hy : Rd w h2 B m (V ys)) (hn : n ≤ maxLen) (hm : m ≤ maxLen) :
    Calls Tryz.prog 18 #[.slice A n c, .slice B m d] (w'.drewN q) fun e w'' => e = .returned (.bool (eqi xs ys)) ∧ ∃ j, w'' = w'.drewN j :=
  (eq_any A n c B m d xs ys h1 h2 (w'.drewN q) (drawn_rd (hw.more q) hx) (drawn_rd (hw.more q) hy) hn hm).mono fun _ _ ⟨he, j, hj⟩ => ⟨he, q + j, by rw [hj, World.drewN_drewN]⟩
set_option maxHeartbeats 800000 in
theorem eqm_any (A : Option Addr) (n c : Nat) (B : Option Addr) (m d : Nat) (xss yss : List (List Int)) (l1 h1 l2 h2 : Nat) (w : World)
    (hx : Mat w l1 h1 A n xss) (hy : Mat w l2 h2 B m yss) (hn : n ≤ 1048576) (hm : m ≤ 1048576) (tx : tot xss ≤ 1048576) (ty : tot yss ≤ 1048576) :
    Calls Tryz.prog 6 #[.slice A n c, .slice B m d] w fun e w' => e = .returned (.bool (eqm xss yss)) ∧ Drawn w w' := by
  have LX := Lib.hid hx.1; have LY := Lib.hid hy.1
  have HX := Lib.hid hx; have HY := Lib.hid hy; clear hx hy
  by_cases hnm : n = m
  · obtain rfl : m = n := hnm.symm
    clear hnm
    go_enter Tryz.func6, Tryz.ntmps6
    go_wp2
    go_loopw [5] (fun i wr => ∃ k : Nat, k ≤ m ∧ i = .int .i64 k ∧ Drawn w wr ∧ SameM xss yss k) (fun i _ => m - (intOf i).toNat)
    case atStart => exact ⟨0, Nat.zero_le _, rfl, ⟨0, rfl⟩, fun j hj => by omega⟩
    case round =>
      obtain ⟨k, hk, rfl, hdr, hsame⟩ := hrel
      have HS := Lib.hid hsame; have HD := Lib.hid hdr; clear hsame hdr
      by_cases hlt : k < m
      · obtain ⟨G, off, A1, c1, xs, l, u, rfl, hxk, hcx, rx, _⟩ := HX.out.at_ hlt
        obtain ⟨G', off', A2, c2, ys, l', u', rfl, hyk, hcy, ry, _⟩ := HY.out.at_ hlt
        rw [← HD.out.cell] at hcx hcy
        have HXK := Lib.hid hxk; have HYK := Lib.hid hyk
        have RX := Lib.hid rx.rd; have RY := Lib.hid ry.rd
        have b1 := tot_row hxk; have b2 := tot_row hyk
        clear hxk hyk rx ry
        by_cases he : eqi xs ys = true
        · have HE := Lib.hid he; clear he
          go_wp2
          go_quiet ((go_at_call 18; exact eq_quiet HD.out _ RX.out RY.out (by unfold maxLen; omega) (by unfold maxLen; omega)))
          rw [HE.out]
          go_wp2
          go_roundw
          case rel => exact ⟨k + 1, by omega, by go_num, HD.out.more _, HS.out.step HXK.out HYK.out HE.out⟩
          case measure => simp [intOf]; omega
        · have he' : eqi xs ys = false := by simpa using he
          have HE := Lib.hid he'; clear he he'
          go_wp2
          go_quiet ((go_at_call 18; exact eq_quiet HD.out _ RX.out RY.out (by unfold maxLen; omega) (by unfold maxLen; omega)))
          rw [HE.out]
          go_wp2
          go_ret
          exact ⟨ret_bool (eqm_no HXK.out HYK.out HE.out).symm, HD.out.more _⟩
      · obtain rfl : k = m := by omega
        go_wp2
        go_ret
        exact ⟨ret_bool (eqm_yes LX.out LY.out HS.out).symm, HD.out⟩
  · have hb : ((n : Int) != (m : Int)) = true := by simp; omega
    have HB : eqm xss yss = false := eqm_len (by rw [LX.out, LY.out]; exact hnm)
    have HB := Lib.hid HB
    clear hnm
    go_enter Tryz.func6, Tryz.ntmps6
    go_wp2
    go_ret
    exact ⟨ret_bool HB.out.symm, 0, rfl⟩

/-- The rows' numbers from k on. -/
def marksm (k : Int) : List (List Int) → List (List Int)
  | [] => []
  | xs :: t => Marks k xs.length :: marksm (k + xs.length) t
theorem marks_len (k : Int) (n : Nat) : (Marks k n).length = n := by simp [Marks]
theorem marksm_len (xss : List (List Int)) : ∀ k, (marksm k xss).length = xss.length := by
  induction xss with
  | nil => intro k; rfl
  | cons a t ih => intro k; simp [marksm, ih]
theorem marksm_tot (xss : List (List Int)) : ∀ k, tot (marksm k xss) = tot xss := by
  induction xss with
  | nil => intro k; rfl
  | cons a t ih => intro k; have := ih (k + a.length); simp only [tot, marksm, List.map_cons, List.sum_cons, marks_len] at *; omega
theorem marksm_at (xss : List (List Int)) : ∀ (k : Int) (j : Nat) (xs : List Int), xss[j]? = some xs → (marksm k xss)[j]? = some (Marks (k + tot (xss.take j)) xs.length) := by
  induction xss with
  | nil => intro k j xs h; simp at h
  | cons a t ih =>
    intro k j xs h
    cases j with
    | zero => simp at h; subst h; simp [marksm, tot]
    | succ j =>
      simp at h
      have := ih (k + a.length) j xs h
      simp only [marksm, List.getElem?_cons_succ, List.take_succ_cons]
      rw [this]
      simp only [tot, List.map_cons, List.sum_cons]
      congr 2
      omega
/-- The first j rows are marked. -/
def mix (k : Int) (xss : List (List Int)) (j : Nat) : List (List Int) := (marksm k xss).take j ++ xss.drop j
theorem mix_zero (k : Int) (xss : List (List Int)) : mix k xss 0 = xss := by simp [mix]
theorem mix_all (k : Int) (xss : List (List Int)) {n : Nat} (h : xss.length = n) : mix k xss n = marksm k xss := by
  unfold mix; rw [List.take_of_length_le (by rw [marksm_len]; omega), List.drop_of_length_le (by omega), List.append_nil]
theorem mix_at {k : Int} {xss : List (List Int)} {j : Nat} (h : j < xss.length) : (mix k xss j)[j]? = xss[j]? := by
  unfold mix
  have hl : ((marksm k xss).take j).length = j := by rw [List.length_take, marksm_len]; omega
  rw [List.getElem?_append_right (by omega), hl]
  simp
theorem mix_step {k : Int} {xss : List (List Int)} {j : Nat} {xs : List Int} (h : xss[j]? = some xs) : (mix k xss j).set j (Marks (k + tot (xss.take j)) xs.length) = mix k xss (j + 1) := by
  have hj : j < xss.length := (List.getElem?_eq_some_iff.1 h).1
  have hl : ((marksm k xss).take j).length = j := by rw [List.length_take, marksm_len]; omega
  unfold mix
  rw [List.take_add_one, marksm_at xss k j xs h, List.set_append_right _ _ (by omega), hl, Nat.sub_self]
  have : xss.drop j = xs :: xss.drop (j + 1) := by
    rw [List.drop_eq_getElem_cons hj]
    congr 1
    rw [List.getElem?_eq_getElem hj] at h
    exact Option.some.inj h
  rw [this]
  simp
def MarkRelM (A : Option Addr) (n lo hi : Nat) (k : Int) (xss : List (List Int)) (w wr : World) (j : Nat) : Prop := Mat wr lo hi A n (mix k xss j) ∧ Out lo hi w wr

set_option maxHeartbeats 800000 in
theorem markm_any (A : Option Addr) (n c : Nat) (xss : List (List Int)) (lo hi : Nat) (k : Int) (w : World)
    (hx : Mat w lo hi A n xss) (hn : n ≤ 1048576) (h1 : 1 ≤ k) (h2 : k ≤ 1048576000) (tx : tot xss ≤ 1048576) :
    Calls Tryz.prog 7 #[.slice A n c, .int .i64 k] w fun e w' => e = .returned (.int .i64 (k + tot xss)) ∧ Mat w' lo hi A n (marksm k xss) ∧ Out lo hi w w' := by
  have LX := Lib.hid hx.1
  have HX := Lib.hid hx; clear hx
  go_enter Tryz.func7, Tryz.ntmps7
  go_wp2
  go_loopw [1, 5] (fun q i wr => ∃ j : Nat, j ≤ n ∧ q = .int .i64 (k + tot (xss.take j)) ∧ i = .int .i64 j ∧ MarkRelM A n lo hi k xss w wr j) (fun _ i _ => n - (intOf i).toNat)
  case atStart => exact ⟨0, Nat.zero_le _, by simp [tot], rfl, by rw [mix_zero]; exact HX.out, Out.refl _ _ _⟩
  case round =>
    obtain ⟨j, hj, rfl, rfl, hm⟩ := hrel
    have HM := Lib.hid hm; clear hm
    have hle := tot_le xss j
    by_cases hlt : j < n
    · obtain ⟨G, off, A1, c1, xs, l, u, rfl, hxk, hcx, rx, hset⟩ := HM.out.1.at_ hlt
      rw [mix_at (by rw [LX.out]; exact hlt)] at hxk
      have HXK := Lib.hid hxk; have HS := Lib.hid hset; have RX := Lib.hid rx
      have b1 := tot_row hxk
      have TT := Lib.hid (tot_take hxk)
      clear hxk hset rx
      go_wp2_with fail
      refine (mark_any A1 _ c1 (V xs) l u (k + tot (xss.take j)) _ RX.out (by omega) (by omega) (by omega)).mono ?_
      rintro e w' ⟨rfl, r1, o1⟩
      have HN := Lib.hid (HS.out w' (Marks (k + tot (xss.take j)) xs.length) (marks_len _ _) r1 o1)
      clear r1 o1
      go_wp2_with fail
      go_roundw
      case rel =>
        refine ⟨j + 1, by omega, by rw [TT.out]; go_num, by go_num, ?_, HM.out.2.trans HN.out.2⟩
        rw [← mix_step HXK.out]
        exact HN.out.1
      case measure => simp [intOf]; omega
    · obtain rfl : j = n := by omega
      have TT : Hid (tot (xss.take j) = tot xss) := Lib.hid (by rw [List.take_of_length_le (by rw [LX.out]; exact Nat.le_refl _)])
      go_wp2
      go_ret
      refine ⟨by rw [← TT.out]; rfl, ?_, HM.out.2⟩
      rw [← mix_all k xss LX.out]
      exact HM.out.1

set_option maxHeartbeats 800000 in
theorem heldm_any (A : Option Addr) (n c : Nat) (xss : List (List Int)) (lo hi : Nat) (k : Int) (w : World)
    (hx : Mat w lo hi A n (marksm k xss)) (hn : n ≤ 1048576) (h1 : 1 ≤ k) (h2 : k ≤ 1048576000) (tx : tot xss ≤ 1048576) :
    Calls Tryz.prog 8 #[.slice A n c, .int .i64 k] w fun e w' => e = .returned (.int .i64 (k + tot xss)) ∧ Drawn w w' := by
  have LX : Hid (xss.length = n) := Lib.hid (by have := hx.1; rw [marksm_len] at this; exact this)
  have HX := Lib.hid hx; clear hx
  go_enter Tryz.func8, Tryz.ntmps8
  go_wp2
  go_loopw [1, 5] (fun q i wr => ∃ j : Nat, j ≤ n ∧ q = .int .i64 (k + tot (xss.take j)) ∧ i = .int .i64 j ∧ Drawn w wr) (fun _ i _ => n - (intOf i).toNat)
  case atStart => exact ⟨0, Nat.zero_le _, by simp [tot], rfl, 0, rfl⟩
  case round =>
    obtain ⟨j, hj, rfl, rfl, hb⟩ := hrel
    have HB := Lib.hid hb; clear hb
    have hle := tot_le xss j
    by_cases hlt : j < n
    · have hxj : xss[j]? = some (xss[j]'(by rw [LX.out]; exact hlt)) := List.getElem?_eq_getElem _
      generalize xss[j]'(by rw [LX.out]; exact hlt) = ys at hxj
      obtain ⟨G, off, A1, c1, xs, l, u, rfl, hxk, hcx, rx, hset⟩ := HX.out.at_ hlt
      rw [marksm_at xss k j ys hxj] at hxk
      obtain rfl := Option.some.inj hxk
      rw [marks_len] at rx hcx
      rw [← HB.out.cell] at hcx
      have RX : Hid (Row wr l u A1 ys.length (V (Marks (k + tot (xss.take j)) ys.length))) := Lib.hid (by obtain ⟨q, rfl⟩ := HB.out; exact rx)
      have b1 := tot_row hxj
      have TT := Lib.hid (tot_take hxj)
      clear hxk hset rx hxj
      go_wp2_with fail
      refine (held_any A1 _ c1 l u (k + tot (xss.take j)) _ RX.out (by omega) (by omega) (by omega)).mono ?_
      rintro e w' ⟨rfl, d1⟩
      have HN := Lib.hid (drawn_trans HB.out d1)
      clear d1
      go_wp2_with fail
      go_roundw
      case rel => exact ⟨j + 1, by omega, by rw [TT.out]; go_num, by go_num, HN.out⟩
      case measure => simp [intOf]; omega
    · obtain rfl : j = n := by omega
      have TT : Hid (tot (xss.take j) = tot xss) := Lib.hid (by rw [List.take_of_length_le (by rw [LX.out]; exact Nat.le_refl _)])
      go_wp2
      go_ret
      exact ⟨by rw [← TT.out]; rfl, HB.out⟩
end Go.Proofs.YtpmojmhamgcfmaaGreat.mat

/-
  A slice of surfaces that the call owns and that grows: each row in a block of its own.
-/
namespace Go.Proofs.YtpmojmhamgcfmaaGreat.orb
open Go.ChangeShapes Go.WideShapes Go.ChangeAt Go.RowKit
open Go.Proofs.YtpmojmhamgcfmaaGreat.mem Go.Proofs.YtpmojmhamgcfmaaGreat.ints Go.Proofs.YtpmojmhamgcfmaaGreat.arr Go.Proofs.YtpmojmhamgcfmaaGreat.pm Go.Proofs.YtpmojmhamgcfmaaGreat.sf
set_option linter.unusedVariables false
set_option maxRecDepth 100000

/-- Block b, from lo on and below hi and not in ex, holds the row that the header h names. -/
structure Rw1 (w : World) (lo hi : Nat) (ex : Nat → Prop) (b : Nat) (h : Value) (xs : List Int) : Prop where
  lo_ : lo ≤ b
  hi_ : b < hi
  ex_ : ¬ ex b
  row : ∃ P c, h = .slice P xs.length c ∧ xs.length ≤ c ∧ 0 < xs.length ∧ Row w b (b + 1) P xs.length (V xs)
/-- The headers hs (two a surface) have the rows of L, each in a block of its own. -/
structure Ls (w : World) (lo hi : Nat) (ex : Nat → Prop) (bl : Nat → Nat × Nat) (hs : List Value) (L : List Sur) : Prop where
  len : hs.length = L.length * 2
  top : hi ≤ w.heap.size
  row : ∀ (k : Nat) (s : Sur), L[k]? = some s → ∃ a b, hs[k * 2]? = some a ∧ hs[k * 2 + 1]? = some b ∧ Rw1 w lo hi ex (bl k).1 a s.1 ∧ Rw1 w lo hi ex (bl k).2 b s.2 ∧ (bl k).1 ≠ (bl k).2
  ne : ∀ i j, i < L.length → j < L.length → i ≠ j → (bl i).1 ≠ (bl j).1 ∧ (bl i).1 ≠ (bl j).2 ∧ (bl i).2 ≠ (bl j).2
theorem Rw1.keep {w w' : World} {lo hi : Nat} {ex : Nat → Prop} {b : Nat} {h : Value} {xs : List Int} (r : Rw1 w lo hi ex b h xs) (hb : w'.heap[b]? = w.heap[b]?) (hs : w.heap.size ≤ w'.heap.size) : Rw1 w' lo hi ex b h xs := by
  obtain ⟨P, c, e, h1, h2, h3⟩ := r.row
  exact ⟨r.lo_, r.hi_, r.ex_, P, c, e, h1, h2, mat.Row.block h3 hb hs⟩
theorem Rw1.to {w : World} {lo hi lo' hi' : Nat} {ex ex' : Nat → Prop} {b : Nat} {h : Value} {xs : List Int} (r : Rw1 w lo hi ex b h xs) (h1 : lo' ≤ lo) (h2 : hi ≤ hi') (he : ¬ ex' b) : Rw1 w lo' hi' ex' b h xs :=
  ⟨Nat.le_trans h1 r.lo_, Nat.lt_of_lt_of_le r.hi_ h2, he, r.row⟩
theorem Ls.keep {w w' : World} {lo hi : Nat} {ex : Nat → Prop} {bl : Nat → Nat × Nat} {hs : List Value} {L : List Sur} (h : Ls w lo hi ex bl hs L) (hz : w.heap.size ≤ w'.heap.size)
    (hk : ∀ b, lo ≤ b → b < hi → ¬ ex b → w'.heap[b]? = w.heap[b]?) : Ls w' lo hi ex bl hs L := by
  refine ⟨h.len, Nat.le_trans h.top hz, fun k s hs' => ?_, h.ne⟩
  obtain ⟨a, b, h1, h2, r1, r2, h3⟩ := h.row k s hs'
  exact ⟨a, b, h1, h2, r1.keep (hk _ r1.lo_ r1.hi_ r1.ex_) hz, r2.keep (hk _ r2.lo_ r2.hi_ r2.ex_) hz, h3⟩
theorem Ls.to {w : World} {lo hi lo' hi' : Nat} {ex ex' : Nat → Prop} {bl : Nat → Nat × Nat} {hs : List Value} {L : List Sur} (h : Ls w lo hi ex bl hs L) (h1 : lo' ≤ lo) (h2 : hi ≤ hi') (h3 : hi' ≤ w.heap.size)
    (he : ∀ b, lo ≤ b → b < hi → ¬ ex b → ¬ ex' b) : Ls w lo' hi' ex' bl hs L := by
  refine ⟨h.len, h3, fun k s hs' => ?_, h.ne⟩
  obtain ⟨a, b, q1, q2, r1, r2, q3⟩ := h.row k s hs'
  exact ⟨a, b, q1, q2, r1.to h1 h2 (he _ r1.lo_ r1.hi_ r1.ex_), r2.to h1 h2 (he _ r2.lo_ r2.hi_ r2.ex_), q3⟩
theorem Ls.nil (w : World) (lo hi : Nat) (ex : Nat → Prop) (bl : Nat → Nat × Nat) (h : hi ≤ w.heap.size) : Ls w lo hi ex bl [] [] :=
  ⟨rfl, h, fun k s hs => by simp at hs, fun i j hi => by simp at hi⟩
/-- One surface more, whose rows lie behind. -/
theorem Ls.snoc {w : World} {lo hi hi' : Nat} {ex : Nat → Prop} {bl : Nat → Nat × Nat} {hs : List Value} {L : List Sur} (h : Ls w lo hi ex bl hs L) {g1 g2 : Nat} {a b : Value} {s : Sur}
    (r1 : Rw1 w hi hi' ex g1 a s.1) (r2 : Rw1 w hi hi' ex g2 b s.2) (hne : g1 ≠ g2) (hlo : lo ≤ hi) (hh : hi ≤ hi') (ht : hi' ≤ w.heap.size) :
    Ls w lo hi' ex (fun i => if i = L.length then (g1, g2) else bl i) (hs ++ [a, b]) (L ++ [s]) := by
  have hl := h.len
  have old : ∀ i, i < L.length → (lo ≤ (bl i).1 ∧ (bl i).1 < hi) ∧ (lo ≤ (bl i).2 ∧ (bl i).2 < hi) := fun i hi => by
    obtain ⟨a, b, _, _, q1, q2, _⟩ := h.row i _ (List.getElem?_eq_getElem hi)
    exact ⟨⟨q1.lo_, q1.hi_⟩, ⟨q2.lo_, q2.hi_⟩⟩
  have n1 := r1.lo_; have n2 := r2.lo_
  refine ⟨by simp [hl]; omega, ht, fun k t hk => ?_, fun i j hi hj hij => ?_⟩
  · rw [List.getElem?_append] at hk
    by_cases hk' : k < L.length
    · rw [if_pos hk'] at hk
      obtain ⟨a', b', q1, q2, q3, q4, q5⟩ := h.row k t hk
      refine ⟨a', b', by rw [List.getElem?_append_left (by omega)]; exact q1, by rw [List.getElem?_append_left (by omega)]; exact q2, ?_⟩
      rw [if_neg (by omega)]
      exact ⟨q3.to (Nat.le_refl _) hh q3.ex_, q4.to (Nat.le_refl _) hh q4.ex_, q5⟩
    · rw [if_neg hk'] at hk
      have e0 : k = L.length := by
        rcases Nat.lt_or_ge (k - L.length) 1 with q | q
        · omega
        · rw [List.getElem?_eq_none (by simpa using q)] at hk; cases hk
      subst e0
      simp at hk
      subst hk
      refine ⟨a, b, by rw [List.getElem?_append_right (by omega), hl]; simp, by rw [List.getElem?_append_right (by omega), hl]; simp, ?_⟩
      rw [if_pos rfl]
      exact ⟨r1.to hlo (Nat.le_refl _) r1.ex_, r2.to hlo (Nat.le_refl _) r2.ex_, hne⟩
  · simp at hi hj
    by_cases e1 : i = L.length
    · have e2 : ¬ j = L.length := by omega
      have := old j (by omega)
      simp only [if_pos e1, if_neg e2]
      omega
    · by_cases e2 : j = L.length
      · have := old i (by omega)
        simp only [if_pos e2, if_neg e1]
        omega
      · simp only [if_neg e1, if_neg e2]
        exact h.ne i j (by omega) (by omega) hij
theorem Ls.srd {w : World} {lo hi : Nat} {ex : Nat → Prop} {bl : Nat → Nat × Nat} {hs : List Value} {L : List Sur} (h : Ls w lo hi ex bl hs L) {k : Nat} {s : Sur} (hs' : L[k]? = some s) :
    ∃ a b, hs[k * 2]? = some a ∧ hs[k * 2 + 1]? = some b ∧ Srd w hi (.agg #[a, b]) s.1 s.2 := by
  obtain ⟨a, b, h1, h2, r1, r2, _⟩ := h.row k s hs'
  obtain ⟨P, c, e1, c1, p1, w1⟩ := r1.row
  obtain ⟨Q, d, e2, c2, p2, w2⟩ := r2.row
  subst e1; subst e2
  have q1 := r1.hi_; have q2 := r2.hi_; have q3 := h.top
  exact ⟨_, _, h1, h2, P, _, c, Q, _, d, rfl, sf.Rd.wider w1.rd (by omega) q3, sf.Rd.wider w2.rd (by omega) q3, c1, c2⟩
theorem add0 (g j : Nat) : (⟨g, 0, none⟩ : Addr).add j = ⟨g, 0 + j, none⟩ := by unfold Addr.add; split <;> simp_all
/-- Owned headers read. -/
theorem Ls.lrd {w : World} {lo : Nat} {ex : Nat → Prop} {bl : Nat → Nat × Nat} {hs : List Value} {L : List Sur} (h : Ls w lo w.heap.size ex bl hs L) {base c : Nat} {e : TypeId} {A : Option Addr}
    (ho : w.ownsRow base e 2 (.slice A L.length c) L.length hs) : Lrd w w.heap.size (.slice A L.length c) L := by
  rcases ho.2 with ⟨q, q0⟩ | ⟨g, cap, cur, q, hb, hh, hc, _, hz, ht⟩
  · injection q with q1 q2 q3
    exact ⟨A, L.length, c, rfl, rfl, by omega, Nat.le_refl _, fun hn => by omega⟩
  · have hlt : g < w.heap.size := by
      rcases Nat.lt_or_ge g w.heap.size with hl | hl
      · exact hl
      · rw [Array.getElem?_eq_none hl] at hh; cases hh
    injection q with q1 q2 q3
    subst q1; subst q3
    have cell : ∀ (j : Nat) (u : Value), hs[j]? = some u → w.cell? ⟨g, 0 + j, none⟩ = some u := fun j u hu => by
      have := ho.cells (g := g) rfl j u hu
      rwa [add0] at this
    refine ⟨_, L.length, c, rfl, rfl, hc, Nat.le_refl _, fun hn => ⟨g, 0, rfl, hlt, fun k s hs' => ?_⟩⟩
    obtain ⟨a, b, h1, h2, h3⟩ := h.srd hs'
    exact ⟨a, b, cell _ _ h1, by rw [Nat.add_assoc]; exact cell _ _ h2, h3⟩
/-- The rows of a fresh surface, each in a block. -/
theorem Svl.two {w : World} {lo hi : Nat} {P Q : Option Addr} {n c m d : Nat} {s : Sur} (h : Svl w lo hi (.agg #[.slice P n c, .slice Q m d]) s.1 s.2) (hn : 0 < n) (hm : 0 < m) (ex : Nat → Prop) (he : ∀ b, lo ≤ b → b < hi → ¬ ex b) :
    ∃ g1 g2, Rw1 w lo hi ex g1 (.slice P n c) s.1 ∧ Rw1 w lo hi ex g2 (.slice Q m d) s.2 ∧ g1 ≠ g2 := by
  obtain ⟨P', n', c', Q', m', d', l1, h1, l2, h2, e, a, b, e1, e2, f1, f2, f3, f4, f5, f6⟩ := h
  simp at e
  obtain ⟨⟨rfl, rfl, rfl⟩, rfl, rfl, rfl⟩ := e
  have L1 : s.1.length = n := by simpa [V] using a.1
  have L2 : s.2.length = m := by simpa [V] using b.1
  subst L1; subst L2
  obtain ⟨g1, o1, q1, q2, q3, q4⟩ := a.2.2 hn
  obtain ⟨g2, o2, p1, p2, p3, p4⟩ := b.2.2 hm
  refine ⟨g1, g2, ⟨by omega, by omega, he _ (by omega) (by omega), P, c, rfl, e1, hn, a.1, by omega, fun _ => ⟨g1, o1, q1, Nat.le_refl _, by omega, q4⟩⟩,
    ⟨by omega, by omega, he _ (by omega) (by omega), Q, d, rfl, e2, hm, b.1, by omega, fun _ => ⟨g2, o2, p1, Nat.le_refl _, by omega, p4⟩⟩, by omega⟩

/-- v has the surfaces and u the words of q, all from base on and below hi, nothing shared. -/
structure Os (w0 w : World) (base hi : Nat) (v u : Value) (q : LW) : Prop where
  ex : ∃ hs bl, w.ownsRow base 31 2 v q.1.length hs ∧ Ls w base hi (fun b => v.ownBlock = some b ∨ u.ownBlock = some b) bl hs q.1
  own : w.ownsRow base 9 1 u q.2.length (q.2.map fun x => Value.string ⟨x.toArray⟩)
  sep : ∀ b, v.ownBlock = some b → ¬ u.ownBlock = some b
  vlt : ∀ b, v.ownBlock = some b → b < hi
  ult : ∀ b, u.ownBlock = some b → b < hi
  bel : Below base w0 w
  low : base ≤ hi
  top : hi ≤ w.heap.size
theorem own_block_keep {w w' : World} {base : Nat} {e : TypeId} {size n : Nat} {v : Value} {xs : List Value} (h : w.ownsRow base e size v n xs) (hb : ∀ b, v.ownBlock = some b → w'.heap[b]? = w.heap[b]?) : w'.ownsRow base e size v n xs := by
  refine ⟨h.1, ?_⟩
  rcases h.2 with q | ⟨g, cap, cur, q1, q2, q3, q4⟩
  · exact .inl q
  · exact .inr ⟨g, cap, cur, q1, q2, by rw [hb g (by rw [q1]; rfl)]; exact q3, q4⟩
theorem Os.keep {w0 w w' : World} {base hi B : Nat} {v u : Value} {q : LW} (h : Os w0 w base hi v u q) (hb : Below B w w') (hB : hi ≤ B) : Os w0 w' base hi v u q := by
  obtain ⟨hs, bl, o1, r⟩ := h.ex
  exact ⟨⟨hs, bl, own_block_keep o1 (fun b e => hb.block b (Nat.lt_of_lt_of_le (h.vlt b e) hB)), r.keep hb.size (fun b _ q2 _ => hb.block b (by omega))⟩,
    own_block_keep h.own (fun b e => hb.block b (Nat.lt_of_lt_of_le (h.ult b e) hB)), h.sep, h.vlt, h.ult, h.bel.trans (hb.mono (Nat.le_trans h.low hB)), h.low, Nat.le_trans h.top hb.size⟩
theorem Os.up {w0 w : World} {base hi : Nat} {v u : Value} {q : LW} (h : Os w0 w base hi v u q) : Os w0 w base w.heap.size v u q := by
  obtain ⟨hs, bl, o1, r⟩ := h.ex
  exact ⟨⟨hs, bl, o1, r.to (Nat.le_refl _) h.top (Nat.le_refl _) (fun _ _ _ q => q)⟩, h.own, h.sep, fun b e => Nat.lt_of_lt_of_le (h.vlt b e) h.top, fun b e => Nat.lt_of_lt_of_le (h.ult b e) h.top, h.bel, Nat.le_trans h.low h.top, Nat.le_refl _⟩
theorem Os.forms {w0 w : World} {base hi : Nat} {v u : Value} {q : LW} (h : Os w0 w base hi v u q) : ∃ A c B d, v = .slice A q.1.length c ∧ u = .slice B q.2.length d := by
  obtain ⟨hs, bl, o1, r⟩ := h.ex
  obtain ⟨A, c, e1⟩ := mem.own_form o1
  obtain ⟨B, d, e2⟩ := mem.own_form h.own
  exact ⟨A, c, B, d, e1, e2⟩
theorem Os.lrd {w0 w : World} {base hi c : Nat} {A : Option Addr} {u : Value} {q : LW} (h : Os w0 w base hi (.slice A q.1.length c) u q) : Lrd w w.heap.size (.slice A q.1.length c) q.1 := by
  obtain ⟨hs, bl, o1, r⟩ := h.up.ex
  exact r.lrd o1
/-- A surface is appended. -/
theorem Os.push {w0 w W w' : World} {base hi lo g cap : Nat} {v u : Value} {q : LW} {s : Sur} {P Q : Option Addr} {n c m d k : Nat} {hs : List Value} {bl : Nat → Nat × Nat} (h : Os w0 w base hi v u q)
    (r : Ls w base hi (fun b => v.ownBlock = some b ∨ u.ownBlock = some b) bl hs q.1)
    (hx : Svl w lo w.heap.size (.agg #[.slice P n c, .slice Q m d]) s.1 s.2) (hn : 0 < n) (hm : 0 < m) (hlo : hi ≤ lo) (hW : Below w.heap.size w W) (hk : k = q.1.length)
    (ho : w'.ownsRow base 31 2 (.slice (some ⟨g, 0, none⟩) (k + 1) cap) (k + 1) (hs ++ [.slice P n c, .slice Q m d])) (hg : W.grownBy w' v.ownBlock) (hb : v.ownBlock = some g ∨ g = W.heap.size) (hlt : g < w'.heap.size) :
    Os w0 w' base w'.heap.size (.slice (some ⟨g, 0, none⟩) (k + 1) cap) u (q.1 ++ [s], q.2) := by
  subst hk
  have hz : w.heap.size ≤ w'.heap.size := Nat.le_trans hW.size hg.size
  have t1 := h.top; have t2 := hW.size; have t3 := hg.size
  have far : ∀ b, b < w.heap.size → ¬ v.ownBlock = some b → w'.heap[b]? = w.heap[b]? := fun b hb1 hb2 => (hg.block b (by omega) (fun e => hb2 e.symm)).trans (hW.block b hb1)
  obtain ⟨g1, g2, r1, r2, hne⟩ := Svl.two hx hn hm (fun b => v.ownBlock = some b ∨ u.ownBlock = some b) (fun b b1 b2 e => by
    rcases e with e | e
    · have := h.vlt b e; omega
    · have := h.ult b e; omega)
  have L1 := r.keep hz (fun b q1 q2 q3 => far b (by omega) (fun e => q3 (.inl e)))
  have R1 := (r1.keep (far _ r1.hi_ (fun e => r1.ex_ (.inl e))) hz).to (ex' := fun b => v.ownBlock = some b ∨ u.ownBlock = some b) hlo (Nat.le_refl _) r1.ex_
  have R2 := (r2.keep (far _ r2.hi_ (fun e => r2.ex_ (.inl e))) hz).to (ex' := fun b => v.ownBlock = some b ∨ u.ownBlock = some b) hlo (Nat.le_refl _) r2.ex_
  have L2 := L1.snoc R1 R2 hne h.low (by omega) hz
  have hgb : ∀ b, b < w.heap.size → g = b → v.ownBlock = some b := fun b hb1 e => by
    rcases hb with q | q
    · rw [q, e]
    · omega
  refine ⟨⟨_, _, by simpa using ho, L2.to (Nat.le_refl _) hz (Nat.le_refl _) (fun b b1 b2 e e' => ?_)⟩, own_block_keep h.own (fun b e => far b (by have := h.ult b e; omega) (fun e' => h.sep b e' e)), fun b e e' => ?_, fun b e => ?_, fun b e => by have := h.ult b e; omega, ?_, by have := h.low; omega, Nat.le_refl _⟩
  · rcases e' with e' | e'
    · have e2 : g = b := by simpa [Value.ownBlock] using e'
      rcases hb with q | q
      · exact e (.inl (by rw [q, e2]))
      · subst e2
        omega
    · exact e (.inr e')
  · have e2 : g = b := by simpa [Value.ownBlock] using e
    have hb1 : b < w.heap.size := by have := h.ult b e'; omega
    exact h.sep b (hgb b hb1 e2) e'
  · have e2 : g = b := by simpa [Value.ownBlock] using e
    omega
  · exact h.bel.trans ⟨hg.os.trans hW.os, hg.tape.trans hW.tape, hg.output.trans hW.output, hz, fun b hb1 => far b (by have := h.low; omega) (fun e => by
      obtain ⟨hs', bl', o1, _⟩ := h.ex
      have := (o1.lt b e).1
      omega)⟩
/-- A word is appended. -/
theorem Os.pushW {w0 w W w' : World} {base hi g cap k : Nat} {v u : Value} {q : LW} {x : List UInt8} (h : Os w0 w base hi v u q) (hW : Below w.heap.size w W) (hk : k = q.2.length)
    (ho : w'.ownsRow base 9 1 (.slice (some ⟨g, 0, none⟩) (k + 1) cap) (k + 1) ((q.2.map fun x => Value.string ⟨x.toArray⟩) ++ [.string ⟨x.toArray⟩])) (hg : W.grownBy w' u.ownBlock) (hb : u.ownBlock = some g ∨ g = W.heap.size) (hlt : g < w'.heap.size) :
    Os w0 w' base w'.heap.size v (.slice (some ⟨g, 0, none⟩) (k + 1) cap) (q.1, q.2 ++ [x]) := by
  subst hk
  obtain ⟨hs, bl, o1, r⟩ := h.ex
  have hz : w.heap.size ≤ w'.heap.size := Nat.le_trans hW.size hg.size
  have t1 := h.top; have t2 := hW.size; have t3 := hg.size
  have far : ∀ b, b < w.heap.size → ¬ u.ownBlock = some b → w'.heap[b]? = w.heap[b]? := fun b hb1 hb2 => (hg.block b (by omega) (fun e => hb2 e.symm)).trans (hW.block b hb1)
  have L1 := r.keep hz (fun b q1 q2 q3 => far b (by omega) (fun e => q3 (.inr e)))
  have hgb : ∀ b, b < w.heap.size → g = b → u.ownBlock = some b := fun b hb1 e => by
    rcases hb with q | q
    · rw [q, e]
    · omega
  refine ⟨⟨_, _, own_block_keep o1 (fun b e => far b (by have := h.vlt b e; omega) (fun e' => h.sep b e e')), L1.to (Nat.le_refl _) (by omega) (Nat.le_refl _) (fun b b1 b2 e e' => ?_)⟩, by simpa using ho, fun b e e' => ?_, fun b e => by have := h.vlt b e; omega, fun b e => ?_, ?_, by have := h.low; omega, Nat.le_refl _⟩
  · rcases e' with e' | e'
    · exact e (.inl e')
    · have e2 : g = b := by simpa [Value.ownBlock] using e'
      exact e (.inr (hgb b (by omega) e2))
  · have e2 : g = b := by simpa [Value.ownBlock] using e'
    have hb1 : b < w.heap.size := by have := h.vlt b e; omega
    exact h.sep b e (hgb b hb1 e2)
  · have e2 : g = b := by simpa [Value.ownBlock] using e
    omega
  · exact h.bel.trans ⟨hg.os.trans hW.os, hg.tape.trans hW.tape, hg.output.trans hW.output, hz, fun b hb1 => far b (by have := h.low; omega) (fun e => by
      have := (h.own.lt b e).1
      omega)⟩
/-- A word of the list. -/
theorem Os.word {w0 w : World} {base hi m d k : Nat} {v : Value} {B : Option Addr} {q : LW} {x : List UInt8} (h : Os w0 w base hi v (.slice B m d) q) (hx : q.2[k]? = some x) :
    ∃ g, B = some ⟨g, 0, none⟩ ∧ w.cell? ⟨g, 0 + k, none⟩ = some (.string ⟨x.toArray⟩) ∧ g < hi := by
  rcases h.own.2 with ⟨e, e0⟩ | ⟨g, cap, cur, e, _⟩
  · have := (List.getElem?_eq_some_iff.1 hx).1
    omega
  · injection e with e1 e2 e3
    subst e1; subst e2
    have := h.own.cells (g := g) rfl k (.string ⟨x.toArray⟩) (by simp [hx])
    rw [add0] at this
    exact ⟨g, rfl, this, h.ult g rfl⟩
end Go.Proofs.YtpmojmhamgcfmaaGreat.orb
