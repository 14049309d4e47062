import Derived.Test.YtafpbnjfmieamaaY13
import Derived.Deep.AppendLies
/-
  A slice of surfaces that the call owns and that grows: each row in a block of its own.
-/
namespace Go.Proofs.Ytafpbnjfmieamaa.orb
open Go.ChangeShapes Go.WideShapes Go.ChangeAt Go.RowKit
open Go.Proofs.Ytafpbnjfmieamaa.mem Go.Proofs.Ytafpbnjfmieamaa.ints Go.Proofs.Ytafpbnjfmieamaa.arr Go.Proofs.Ytafpbnjfmieamaa.pm Go.Proofs.Ytafpbnjfmieamaa.sf
set_option linter.unusedVariables false
set_option maxRecDepth 100000

/-- Block b, from lo on and below hi and not in ex, holds the row that the header h names. -/
structure Rw1 (w : World) (lo hi : Nat) (ex : Nat → Prop) (b : Nat) (h : Value) (xs : List Int) : Prop where
  lo_ : lo ≤ b
  hi_ : b < hi
  ex_ : ¬ ex b
  row : ∃ P c, h = .slice P xs.length c ∧ xs.length ≤ c ∧ 0 < xs.length ∧ Row w b (b + 1) P xs.length (V xs)
/-- The headers hs (two a surface) have the rows of L, each in a block of its own. -/
structure Ls (w : World) (lo hi : Nat) (ex : Nat → Prop) (bl : Nat → Nat × Nat) (hs : List Value) (L : List Sur) : Prop where
  len : hs.length = L.length * 2
  top : hi ≤ w.heap.size
  row : ∀ (k : Nat) (s : Sur), L[k]? = some s → ∃ a b, hs[k * 2]? = some a ∧ hs[k * 2 + 1]? = some b ∧ Rw1 w lo hi ex (bl k).1 a s.1 ∧ Rw1 w lo hi ex (bl k).2 b s.2 ∧ (bl k).1 ≠ (bl k).2
  ne : ∀ i j, i < L.length → j < L.length → i ≠ j → (bl i).1 ≠ (bl j).1 ∧ (bl i).1 ≠ (bl j).2 ∧ (bl i).2 ≠ (bl j).2
theorem Rw1.keep {w w' : World} {lo hi : Nat} {ex : Nat → Prop} {b : Nat} {h : Value} {xs : List Int} (r : Rw1 w lo hi ex b h xs) (hb : w'.heap[b]? = w.heap[b]?) (hs : w.heap.size ≤ w'.heap.size) : Rw1 w' lo hi ex b h xs := by
  obtain ⟨P, c, e, h1, h2, h3⟩ := r.row
  exact ⟨r.lo_, r.hi_, r.ex_, P, c, e, h1, h2, mat.Row.block h3 hb hs⟩
theorem Rw1.to {w : World} {lo hi lo' hi' : Nat} {ex ex' : Nat → Prop} {b : Nat} {h : Value} {xs : List Int} (r : Rw1 w lo hi ex b h xs) (h1 : lo' ≤ lo) (h2 : hi ≤ hi') (he : ¬ ex' b) : Rw1 w lo' hi' ex' b h xs :=
  ⟨Nat.le_trans h1 r.lo_, Nat.lt_of_lt_of_le r.hi_ h2, he, r.row⟩
theorem Ls.keep {w w' : World} {lo hi : Nat} {ex : Nat → Prop} {bl : Nat → Nat × Nat} {hs : List Value} {L : List Sur} (h : Ls w lo hi ex bl hs L) (hz : w.heap.size ≤ w'.heap.size)
    (hk : ∀ b, lo ≤ b → b < hi → ¬ ex b → w'.heap[b]? = w.heap[b]?) : Ls w' lo hi ex bl hs L := by
  refine ⟨h.len, Nat.le_trans h.top hz, fun k s hs' => ?_, h.ne⟩
  obtain ⟨a, b, h1, h2, r1, r2, h3⟩ := h.row k s hs'
  exact ⟨a, b, h1, h2, r1.keep (hk _ r1.lo_ r1.hi_ r1.ex_) hz, r2.keep (hk _ r2.lo_ r2.hi_ r2.ex_) hz, h3⟩
theorem Ls.to {w : World} {lo hi lo' hi' : Nat} {ex ex' : Nat → Prop} {bl : Nat → Nat × Nat} {hs : List Value} {L : List Sur} (h : Ls w lo hi ex bl hs L) (h1 : lo' ≤ lo) (h2 : hi ≤ hi') (h3 : hi' ≤ w.heap.size)
    (he : ∀ b, lo ≤ b → b < hi → ¬ ex b → ¬ ex' b) : Ls w lo' hi' ex' bl hs L := by
  refine ⟨h.len, h3, fun k s hs' => ?_, h.ne⟩
  obtain ⟨a, b, q1, q2, r1, r2, q3⟩ := h.row k s hs'
  exact ⟨a, b, q1, q2, r1.to h1 h2 (he _ r1.lo_ r1.hi_ r1.ex_), r2.to h1 h2 (he _ r2.lo_ r2.hi_ r2.ex_), q3⟩
theorem Ls.nil (w : World) (lo hi : Nat) (ex : Nat → Prop) (bl : Nat → Nat × Nat) (h : hi ≤ w.heap.size) : Ls w lo hi ex bl [] [] :=
  ⟨rfl, h, fun k s hs => by simp at hs, fun i j hi => by simp at hi⟩
/-- One surface more, whose rows lie behind. -/
theorem Ls.snoc {w : World} {lo hi hi' : Nat} {ex : Nat → Prop} {bl : Nat → Nat × Nat} {hs : List Value} {L : List Sur} (h : Ls w lo hi ex bl hs L) {g1 g2 : Nat} {a b : Value} {s : Sur}
    (r1 : Rw1 w hi hi' ex g1 a s.1) (r2 : Rw1 w hi hi' ex g2 b s.2) (hne : g1 ≠ g2) (hlo : lo ≤ hi) (hh : hi ≤ hi') (ht : hi' ≤ w.heap.size) :
    Ls w lo hi' ex (fun i => if i = L.length then (g1, g2) else bl i) (hs ++ [a, b]) (L ++ [s]) := by
  have hl := h.len
  have old : ∀ i, i < L.length → (lo ≤ (bl i).1 ∧ (bl i).1 < hi) ∧ (lo ≤ (bl i).2 ∧ (bl i).2 < hi) := fun i hi => by
    obtain ⟨a, b, _, _, q1, q2, _⟩ := h.row i _ (List.getElem?_eq_getElem hi)
    exact ⟨⟨q1.lo_, q1.hi_⟩, ⟨q2.lo_, q2.hi_⟩⟩
  have n1 := r1.lo_; have n2 := r2.lo_
  refine ⟨by simp [hl]; omega, ht, fun k t hk => ?_, fun i j hi hj hij => ?_⟩
  · rw [List.getElem?_append] at hk
    by_cases hk' : k < L.length
    · rw [if_pos hk'] at hk
      obtain ⟨a', b', q1, q2, q3, q4, q5⟩ := h.row k t hk
      refine ⟨a', b', by rw [List.getElem?_append_left (by omega)]; exact q1, by rw [List.getElem?_append_left (by omega)]; exact q2, ?_⟩
      rw [if_neg (by omega)]
      exact ⟨q3.to (Nat.le_refl _) hh q3.ex_, q4.to (Nat.le_refl _) hh q4.ex_, q5⟩
    · rw [if_neg hk'] at hk
      have e0 : k = L.length := by
        rcases Nat.lt_or_ge (k - L.length) 1 with q | q
        · omega
        · rw [List.getElem?_eq_none (by simpa using q)] at hk; cases hk
      subst e0
      simp at hk
      subst hk
      refine ⟨a, b, by rw [List.getElem?_append_right (by omega), hl]; simp, by rw [List.getElem?_append_right (by omega), hl]; simp, ?_⟩
      rw [if_pos rfl]
      exact ⟨r1.to hlo (Nat.le_refl _) r1.ex_, r2.to hlo (Nat.le_refl _) r2.ex_, hne⟩
  · simp at hi hj
    by_cases e1 : i = L.length
    · have e2 : ¬ j = L.length := by omega
      have := old j (by omega)
      simp only [if_pos e1, if_neg e2]
      omega
    · by_cases e2 : j = L.length
      · have := old i (by omega)
        simp only [if_pos e2, if_neg e1]
        omega
      · simp only [if_neg e1, if_neg e2]
        exact h.ne i j (by omega) (by omega) hij
theorem Ls.srd {w : World} {lo hi : Nat} {ex : Nat → Prop} {bl : Nat → Nat × Nat} {hs : List Value} {L : List Sur} (h : Ls w lo hi ex bl hs L) {k : Nat} {s : Sur} (hs' : L[k]? = some s) :
    ∃ a b, hs[k * 2]? = some a ∧ hs[k * 2 + 1]? = some b ∧ Srd w hi (.agg #[a, b]) s.1 s.2 := by
  obtain ⟨a, b, h1, h2, r1, r2, _⟩ := h.row k s hs'
  obtain ⟨P, c, e1, c1, p1, w1⟩ := r1.row
  obtain ⟨Q, d, e2, c2, p2, w2⟩ := r2.row
  subst e1; subst e2
  have q1 := r1.hi_; have q2 := r2.hi_; have q3 := h.top
  exact ⟨_, _, h1, h2, P, _, c, Q, _, d, rfl, sf.Rd.wider w1.rd (by omega) q3, sf.Rd.wider w2.rd (by omega) q3, c1, c2⟩
theorem add0 (g j : Nat) : (⟨g, 0, none⟩ : Addr).add j = ⟨g, 0 + j, none⟩ := by unfold Addr.add; split <;> simp_all
/-- Owned headers read. -/
theorem Ls.lrd {w : World} {lo : Nat} {ex : Nat → Prop} {bl : Nat → Nat × Nat} {hs : List Value} {L : List Sur} (h : Ls w lo w.heap.size ex bl hs L) {base c : Nat} {e : TypeId} {A : Option Addr}
    (ho : w.ownsRow base e 2 (.slice A L.length c) L.length hs) : Lrd w w.heap.size (.slice A L.length c) L := by
  rcases ho.2 with ⟨q, q0⟩ | ⟨g, cap, cur, q, hb, hh, hc, _, hz, ht⟩
  · injection q with q1 q2 q3
    exact ⟨A, L.length, c, rfl, rfl, by omega, Nat.le_refl _, fun hn => by omega⟩
  · have hlt : g < w.heap.size := by
      rcases Nat.lt_or_ge g w.heap.size with hl | hl
      · exact hl
      · rw [Array.getElem?_eq_none hl] at hh; cases hh
    injection q with q1 q2 q3
    subst q1; subst q3
    have cell : ∀ (j : Nat) (u : Value), hs[j]? = some u → w.cell? ⟨g, 0 + j, none⟩ = some u := fun j u hu => by
      have := ho.cells (g := g) rfl j u hu
      rwa [add0] at this
    refine ⟨_, L.length, c, rfl, rfl, hc, Nat.le_refl _, fun hn => ⟨g, 0, rfl, hlt, fun k s hs' => ?_⟩⟩
    obtain ⟨a, b, h1, h2, h3⟩ := h.srd hs'
    exact ⟨a, b, cell _ _ h1, by rw [Nat.add_assoc]; exact cell _ _ h2, h3⟩
/-- The rows of a fresh surface, each in a block. -/
theorem Svl.two {w : World} {lo hi : Nat} {P Q : Option Addr} {n c m d : Nat} {s : Sur} (h : Svl w lo hi (.agg #[.slice P n c, .slice Q m d]) s.1 s.2) (hn : 0 < n) (hm : 0 < m) (ex : Nat → Prop) (he : ∀ b, lo ≤ b → b < hi → ¬ ex b) :
    ∃ g1 g2, Rw1 w lo hi ex g1 (.slice P n c) s.1 ∧ Rw1 w lo hi ex g2 (.slice Q m d) s.2 ∧ g1 ≠ g2 := by
  obtain ⟨P', n', c', Q', m', d', l1, h1, l2, h2, e, a, b, e1, e2, f1, f2, f3, f4, f5, f6⟩ := h
  simp at e
  obtain ⟨⟨rfl, rfl, rfl⟩, rfl, rfl, rfl⟩ := e
  have L1 : s.1.length = n := by simpa [V] using a.1
  have L2 : s.2.length = m := by simpa [V] using b.1
  subst L1; subst L2
  obtain ⟨g1, o1, q1, q2, q3, q4⟩ := a.2.2 hn
  obtain ⟨g2, o2, p1, p2, p3, p4⟩ := b.2.2 hm
  refine ⟨g1, g2, ⟨by omega, by omega, he _ (by omega) (by omega), P, c, rfl, e1, hn, a.1, by omega, fun _ => ⟨g1, o1, q1, Nat.le_refl _, by omega, q4⟩⟩,
    ⟨by omega, by omega, he _ (by omega) (by omega), Q, d, rfl, e2, hm, b.1, by omega, fun _ => ⟨g2, o2, p1, Nat.le_refl _, by omega, p4⟩⟩, by omega⟩

/-- v has the surfaces and u the words of q, all from base on and below hi, nothing shared. -/
structure Os (w0 w : World) (base hi : Nat) (v u : Value) (q : LW) : Prop where
  ex : ∃ hs bl, w.ownsRow base 33 2 v q.1.length hs ∧ Ls w base hi (fun b => v.ownBlock = some b ∨ u.ownBlock = some b) bl hs q.1
  own : w.ownsRow base 9 1 u q.2.length (q.2.map fun x => Value.string ⟨x.toArray⟩)
  sep : ∀ b, v.ownBlock = some b → ¬ u.ownBlock = some b
  vlt : ∀ b, v.ownBlock = some b → b < hi
  ult : ∀ b, u.ownBlock = some b → b < hi
  bel : Below base w0 w
  low : base ≤ hi
  top : hi ≤ w.heap.size
theorem own_block_keep {w w' : World} {base : Nat} {e : TypeId} {size n : Nat} {v : Value} {xs : List Value} (h : w.ownsRow base e size v n xs) (hb : ∀ b, v.ownBlock = some b → w'.heap[b]? = w.heap[b]?) : w'.ownsRow base e size v n xs := by
  refine ⟨h.1, ?_⟩
  rcases h.2 with q | ⟨g, cap, cur, q1, q2, q3, q4⟩
  · exact .inl q
  · exact .inr ⟨g, cap, cur, q1, q2, by rw [hb g (by rw [q1]; rfl)]; exact q3, q4⟩
theorem Os.keep {w0 w w' : World} {base hi B : Nat} {v u : Value} {q : LW} (h : Os w0 w base hi v u q) (hb : Below B w w') (hB : hi ≤ B) : Os w0 w' base hi v u q := by
  obtain ⟨hs, bl, o1, r⟩ := h.ex
  exact ⟨⟨hs, bl, own_block_keep o1 (fun b e => hb.block b (Nat.lt_of_lt_of_le (h.vlt b e) hB)), r.keep hb.size (fun b _ q2 _ => hb.block b (by omega))⟩,
    own_block_keep h.own (fun b e => hb.block b (Nat.lt_of_lt_of_le (h.ult b e) hB)), h.sep, h.vlt, h.ult, h.bel.trans (hb.mono (Nat.le_trans h.low hB)), h.low, Nat.le_trans h.top hb.size⟩
theorem Os.up {w0 w : World} {base hi : Nat} {v u : Value} {q : LW} (h : Os w0 w base hi v u q) : Os w0 w base w.heap.size v u q := by
  obtain ⟨hs, bl, o1, r⟩ := h.ex
  exact ⟨⟨hs, bl, o1, r.to (Nat.le_refl _) h.top (Nat.le_refl _) (fun _ _ _ q => q)⟩, h.own, h.sep, fun b e => Nat.lt_of_lt_of_le (h.vlt b e) h.top, fun b e => Nat.lt_of_lt_of_le (h.ult b e) h.top, h.bel, Nat.le_trans h.low h.top, Nat.le_refl _⟩
theorem Os.forms {w0 w : World} {base hi : Nat} {v u : Value} {q : LW} (h : Os w0 w base hi v u q) : ∃ A c B d, v = .slice A q.1.length c ∧ u = .slice B q.2.length d := by
  obtain ⟨hs, bl, o1, r⟩ := h.ex
  obtain ⟨A, c, e1⟩ := mem.own_form o1
  obtain ⟨B, d, e2⟩ := mem.own_form h.own
  exact ⟨A, c, B, d, e1, e2⟩
theorem Os.lrd {w0 w : World} {base hi c : Nat} {A : Option Addr} {u : Value} {q : LW} (h : Os w0 w base hi (.slice A q.1.length c) u q) : Lrd w w.heap.size (.slice A q.1.length c) q.1 := by
  obtain ⟨hs, bl, o1, r⟩ := h.up.ex
  exact r.lrd o1
/-- A surface is appended. -/
theorem Os.push {w0 w W w' : World} {base hi lo g cap : Nat} {v u : Value} {q : LW} {s : Sur} {P Q : Option Addr} {n c m d k : Nat} {hs : List Value} {bl : Nat → Nat × Nat} (h : Os w0 w base hi v u q)
    (r : Ls w base hi (fun b => v.ownBlock = some b ∨ u.ownBlock = some b) bl hs q.1)
    (hx : Svl w lo w.heap.size (.agg #[.slice P n c, .slice Q m d]) s.1 s.2) (hn : 0 < n) (hm : 0 < m) (hlo : hi ≤ lo) (hW : Below w.heap.size w W) (hk : k = q.1.length)
    (ho : w'.ownsRow base 33 2 (.slice (some ⟨g, 0, none⟩) (k + 1) cap) (k + 1) (hs ++ [.slice P n c, .slice Q m d])) (hg : W.grownBy w' v.ownBlock) (hb : v.ownBlock = some g ∨ g = W.heap.size) (hlt : g < w'.heap.size) :
    Os w0 w' base w'.heap.size (.slice (some ⟨g, 0, none⟩) (k + 1) cap) u (q.1 ++ [s], q.2) := by
  subst hk
  have hz : w.heap.size ≤ w'.heap.size := Nat.le_trans hW.size hg.size
  have t1 := h.top; have t2 := hW.size; have t3 := hg.size
  have far : ∀ b, b < w.heap.size → ¬ v.ownBlock = some b → w'.heap[b]? = w.heap[b]? := fun b hb1 hb2 => (hg.block b (by omega) (fun e => hb2 e.symm)).trans (hW.block b hb1)
  obtain ⟨g1, g2, r1, r2, hne⟩ := Svl.two hx hn hm (fun b => v.ownBlock = some b ∨ u.ownBlock = some b) (fun b b1 b2 e => by
    rcases e with e | e
    · have := h.vlt b e; omega
    · have := h.ult b e; omega)
  have L1 := r.keep hz (fun b q1 q2 q3 => far b (by omega) (fun e => q3 (.inl e)))
  have R1 := (r1.keep (far _ r1.hi_ (fun e => r1.ex_ (.inl e))) hz).to (ex' := fun b => v.ownBlock = some b ∨ u.ownBlock = some b) hlo (Nat.le_refl _) r1.ex_
  have R2 := (r2.keep (far _ r2.hi_ (fun e => r2.ex_ (.inl e))) hz).to (ex' := fun b => v.ownBlock = some b ∨ u.ownBlock = some b) hlo (Nat.le_refl _) r2.ex_
  have L2 := L1.snoc R1 R2 hne h.low (by omega) hz
  have hgb : ∀ b, b < w.heap.size → g = b → v.ownBlock = some b := fun b hb1 e => by
    rcases hb with q | q
    · rw [q, e]
    · omega
  refine ⟨⟨_, _, by simpa using ho, L2.to (Nat.le_refl _) hz (Nat.le_refl _) (fun b b1 b2 e e' => ?_)⟩, own_block_keep h.own (fun b e => far b (by have := h.ult b e; omega) (fun e' => h.sep b e' e)), fun b e e' => ?_, fun b e => ?_, fun b e => by have := h.ult b e; omega, ?_, by have := h.low; omega, Nat.le_refl _⟩
  · rcases e' with e' | e'
    · have e2 : g = b := by simpa [Value.ownBlock] using e'
      rcases hb with q | q
      · exact e (.inl (by rw [q, e2]))
      · subst e2
        omega
    · exact e (.inr e')
  · have e2 : g = b := by simpa [Value.ownBlock] using e
    have hb1 : b < w.heap.size := by have := h.ult b e'; omega
    exact h.sep b (hgb b hb1 e2) e'
  · have e2 : g = b := by simpa [Value.ownBlock] using e
    omega
  · exact h.bel.trans ⟨hg.os.trans hW.os, hg.tape.trans hW.tape, hg.output.trans hW.output, hz, fun b hb1 => far b (by have := h.low; omega) (fun e => by
      obtain ⟨hs', bl', o1, _⟩ := h.ex
      have := (o1.lt b e).1
      omega)⟩
/-- A word is appended. -/
theorem Os.pushW {w0 w W w' : World} {base hi g cap k : Nat} {v u : Value} {q : LW} {x : List UInt8} (h : Os w0 w base hi v u q) (hW : Below w.heap.size w W) (hk : k = q.2.length)
    (ho : w'.ownsRow base 9 1 (.slice (some ⟨g, 0, none⟩) (k + 1) cap) (k + 1) ((q.2.map fun x => Value.string ⟨x.toArray⟩) ++ [.string ⟨x.toArray⟩])) (hg : W.grownBy w' u.ownBlock) (hb : u.ownBlock = some g ∨ g = W.heap.size) (hlt : g < w'.heap.size) :
    Os w0 w' base w'.heap.size v (.slice (some ⟨g, 0, none⟩) (k + 1) cap) (q.1, q.2 ++ [x]) := by
  subst hk
  obtain ⟨hs, bl, o1, r⟩ := h.ex
  have hz : w.heap.size ≤ w'.heap.size := Nat.le_trans hW.size hg.size
  have t1 := h.top; have t2 := hW.size; have t3 := hg.size
  have far : ∀ b, b < w.heap.size → ¬ u.ownBlock = some b → w'.heap[b]? = w.heap[b]? := fun b hb1 hb2 => (hg.block b (by omega) (fun e => hb2 e.symm)).trans (hW.block b hb1)
  have L1 := r.keep hz (fun b q1 q2 q3 => far b (by omega) (fun e => q3 (.inr e)))
  have hgb : ∀ b, b < w.heap.size → g = b → u.ownBlock = some b := fun b hb1 e => by
    rcases hb with q | q
    · rw [q, e]
    · omega
  refine ⟨⟨_, _, own_block_keep o1 (fun b e => far b (by have := h.vlt b e; omega) (fun e' => h.sep b e e')), L1.to (Nat.le_refl _) (by omega) (Nat.le_refl _) (fun b b1 b2 e e' => ?_)⟩, by simpa using ho, fun b e e' => ?_, fun b e => by have := h.vlt b e; omega, fun b e => ?_, ?_, by have := h.low; omega, Nat.le_refl _⟩
  · rcases e' with e' | e'
    · exact e (.inl e')
    · have e2 : g = b := by simpa [Value.ownBlock] using e'
      exact e (.inr (hgb b (by omega) e2))
  · have e2 : g = b := by simpa [Value.ownBlock] using e'
    have hb1 : b < w.heap.size := by have := h.vlt b e; omega
    exact h.sep b e (hgb b hb1 e2)
  · have e2 : g = b := by simpa [Value.ownBlock] using e
    omega
  · exact h.bel.trans ⟨hg.os.trans hW.os, hg.tape.trans hW.tape, hg.output.trans hW.output, hz, fun b hb1 => far b (by have := h.low; omega) (fun e => by
      have := (h.own.lt b e).1
      omega)⟩
/-- A word of the list. -/
theorem Os.word {w0 w : World} {base hi m d k : Nat} {v : Value} {B : Option Addr} {q : LW} {x : List UInt8} (h : Os w0 w base hi v (.slice B m d) q) (hx : q.2[k]? = some x) :
    ∃ g, B = some ⟨g, 0, none⟩ ∧ w.cell? ⟨g, 0 + k, none⟩ = some (.string ⟨x.toArray⟩) ∧ g < hi := by
  rcases h.own.2 with ⟨e, e0⟩ | ⟨g, cap, cur, e, _⟩
  · have := (List.getElem?_eq_some_iff.1 hx).1
    omega
  · injection e with e1 e2 e3
    subst e1; subst e2
    have := h.own.cells (g := g) rfl k (.string ⟨x.toArray⟩) (by simp [hx])
    rw [add0] at this
    exact ⟨g, rfl, this, h.ult g rfl⟩
end Go.Proofs.Ytafpbnjfmieamaa.orb

/-
  Orbits: letters on isomorphic surfaces; an orbit is closed under all letters, and is what words reach. Plain mathematics.
-/
namespace Go.Proofs.Ytafpbnjfmieamaa.orb
open Go.Proofs.Ytafpbnjfmieamaa.pm
set_option linter.unusedVariables false
set_option maxRecDepth 100000

theorem ren_thn {n : Nat} {X Y P : List Int} (h : Ren n X Y P) (lx : X.length = n) (lp : P.length = n) : thn X P = thn P Y := by
  refine list_eq n (by rw [thn_len]; exact lx) (by rw [thn_len]; exact lp) fun i hi => ?_
  rw [thn_at (by omega), thn_at (by omega)]
  exact (h.eq i hi).symm
theorem conj_inv {n : Nat} {X Y P : List Int} (x : Ok X) (y : Ok Y) (p : Ok P) (lx : X.length = n) (ly : Y.length = n) (lp : P.length = n) (h : thn X P = thn P Y) : thn (Inv X) P = thn P (Inv Y) := by
  have ix := Inv_ok x
  have lix : (Inv X).length = n := by rw [Inv_len]; exact lx
  have e1 : P = thn (Inv X) (thn P Y) := by rw [← h, ← thn_assoc ix (by rw [lix, lx]), Inv_thn_self x lx, id_thn lp]
  have o1 : Ok (thn (Inv X) P) := thn_ok ix p (by rw [lix, lp])
  have e2 : thn P (Inv Y) = thn (thn (Inv X) (thn P Y)) (Inv Y) := by rw [← e1]
  rw [e2, ← thn_assoc ix (by rw [lix, lp]), thn_assoc o1 (by rw [thn_len, lix, ly]), thn_Inv y ly, thn_id o1 (by rw [thn_len]; exact lix)]
theorem conj_thn {n : Nat} {X Y X' Y' P : List Int} (x : Ok X) (p : Ok P) (x' : Ok X') (lx : X.length = n) (lp : P.length = n) (lx' : X'.length = n) (ly : Y.length = n) (ly' : Y'.length = n) (h : thn X P = thn P X') (h' : thn Y P = thn P Y') : thn (thn X Y) P = thn P (thn X' Y') := by
  rw [thn_assoc x (by rw [lx, ly]), h', ← thn_assoc x (by rw [lx, lp]), h, thn_assoc p (by rw [lp, lx'])]
/-- Letters on isomorphic surfaces give isomorphic surfaces. -/
theorem let_iso {n : Nat} {R U R' U' ns : List Int} (h : Iso n R U R' U' ns) (s' : Sf n R' U') (c : UInt8) : Iso n (letS c (R, U)).1 (letS c (R, U)).2 (letS c (R', U')).1 (letS c (R', U')).2 ns := by
  have s := h.s
  have a1 := ren_thn h.r s.lr h.ln
  have a2 := ren_thn h.u s.lu h.ln
  have i1 := conj_inv s.r s'.r h.okn s.lr s'.lr h.ln a1
  have i2 := conj_inv s.u s'.u h.okn s.lu s'.lu h.ln a2
  have li1 : (Inv R).length = n := by rw [Inv_len]; exact s.lr
  have li1' : (Inv R').length = n := by rw [Inv_len]; exact s'.lr
  have li2 : (Inv U).length = n := by rw [Inv_len]; exact s.lu
  have li2' : (Inv U').length = n := by rw [Inv_len]; exact s'.lu
  have t := letS_sf s c
  have t' := letS_sf s' c
  unfold letS at t t' ⊢
  split
  · rename_i e
    rw [if_pos e] at t t'
    exact ⟨t, h.okn, h.ln, h.r, ren_of t.u t'.u h.okn t.lu t'.lu h.ln (conj_thn (Inv_ok s.r) h.okn (Inv_ok s'.r) li1 h.ln li1' s.lu s'.lu i1 a2)⟩
  · rename_i e
    rw [if_neg e] at t t'
    split
    · rename_i e2
      rw [if_pos e2] at t t'
      exact ⟨t, h.okn, h.ln, h.r, ren_of t.u t'.u h.okn t.lu t'.lu h.ln (conj_thn s.r h.okn s'.r s.lr h.ln s'.lr s.lu s'.lu a1 a2)⟩
    · rename_i e2
      rw [if_neg e2] at t t'
      split
      · rename_i e3
        rw [if_pos e3] at t t'
        exact ⟨t, h.okn, h.ln, ren_of t.r t'.r h.okn t.lr t'.lr h.ln i2, h.r⟩
      · rename_i e3
        rw [if_neg e3] at t t'
        exact ⟨t, h.okn, h.ln, h.u, ren_of t.u t'.u h.okn t.lu t'.lu h.ln i1⟩
theorem cn_let {n : Nat} {s : Sur} (h : Sf n s.1 s.2) (c : UInt8) : cn (letS c (cn s)) = cn (letS c s) := by
  obtain ⟨R, U⟩ := s
  obtain ⟨ns, i, s'⟩ := h.can_iso
  have e : cn (R, U) = can R U n := by unfold cn; rw [h.lr]
  rw [e]
  have j := let_iso i s' c
  have k := letS_sf h c
  have k' := letS_sf s' c
  have := j.can_eq k'
  unfold cn
  rw [k.lr, k'.lr]
  exact this
theorem cn_cn {n : Nat} {s : Sur} (h : Sf n s.1 s.2) : cn (cn s) = cn s := by
  obtain ⟨R, U⟩ := s
  obtain ⟨ns, i, s'⟩ := h.can_iso
  have e : cn (R, U) = can R U n := by unfold cn; rw [h.lr]
  rw [e]
  unfold cn
  rw [s'.lr]
  exact i.can_eq s'
theorem stp_cn_eq {n : Nat} {s : Sur} (h : Sf n s.1 s.2) (c : UInt8) : stp c (cn s) = cn (letS c s) := cn_let h c
theorem runS_append (v w : List UInt8) (s : Sur) : runS (v ++ w) s = runS w (runS v s) := by simp [runS, List.foldl_append]
/-- Words on surfaces with one form. -/
theorem cn_run {n : Nat} : ∀ (w : List UInt8) {s : Sur}, Sf n s.1 s.2 → cn (runS w (cn s)) = cn (runS w s) := by
  intro w
  have key : ∀ (w : List UInt8) (s t : Sur), Sf n s.1 s.2 → Sf n t.1 t.2 → cn s = cn t → cn (runS w s) = cn (runS w t) := by
    intro w
    induction w with
    | nil => intro s t _ _ e; exact e
    | cons c w ih =>
      intro s t hs ht e
      refine ih (letS c s) (letS c t) (letS_sf hs c) (letS_sf ht c) ?_
      rw [← cn_let hs c, ← cn_let ht c, e]
  intro s hs
  exact key w _ _ (cn_sf hs) hs (cn_cn hs)

theorem g_sub_len {α : Type} [DecidableEq α] : ∀ (l m : List α), l.Nodup → (∀ x ∈ l, x ∈ m) → l.length ≤ m.length := by
  intro l
  induction l with
  | nil => intros; simp
  | cons a t ih =>
    intro m hd hs
    have hd' := List.nodup_cons.1 hd
    have ha := hs a (by simp)
    have := ih (m.erase a) hd'.2 (fun x hx => (List.mem_erase_of_ne (fun (e : x = a) => hd'.1 (by rw [← e]; exact hx))).2 (hs x (by simp [hx])))
    rw [List.length_erase_of_mem ha] at this
    have : 0 < m.length := List.length_pos_of_mem ha
    simp
    omega
theorem g_sub_mem {α : Type} [DecidableEq α] {l m : List α} (hl : l.Nodup) (hs : ∀ x ∈ l, x ∈ m) (hlen : m.length ≤ l.length) {y : α} (hy : y ∈ m) : y ∈ l := by
  by_cases h : y ∈ l
  · exact h
  · have := g_sub_len (y :: l) m (List.nodup_cons.2 ⟨h, hl⟩) (fun x hx => by
      rcases List.mem_cons.1 hx with rfl | hx
      · exact hy
      · exact hs x hx)
    simp at this
    omega
theorem map_nodup {α β : Type} {f : α → β} : ∀ {l : List α}, l.Nodup → (∀ x ∈ l, ∀ y ∈ l, f x = f y → x = y) → (l.map f).Nodup
  | [], _, _ => by simp
  | a :: l, h, hf => by
    obtain ⟨h1, h2⟩ := List.nodup_cons.1 h
    rw [List.map_cons]
    refine List.nodup_cons.2 ⟨fun hm => ?_, map_nodup h2 (fun x hx y hy => hf x (List.mem_cons_of_mem _ hx) y (List.mem_cons_of_mem _ hy))⟩
    obtain ⟨y, hy, e⟩ := List.mem_map.1 hm
    have := hf a (by simp) y (List.mem_cons_of_mem _ hy) e.symm
    exact h1 (this ▸ hy)
/-- An injective map of a list into itself meets all of it. -/
theorem onto_self {α : Type} [DecidableEq α] {l : List α} {f : α → α} (hl : l.Nodup) (hf : ∀ x ∈ l, ∀ y ∈ l, f x = f y → x = y) (hm : ∀ x ∈ l, f x ∈ l) {y : α} (hy : y ∈ l) : ∃ x ∈ l, f x = y := by
  have := g_sub_mem (l := l.map f) (m := l) (map_nodup hl hf) (fun x hx => by obtain ⟨z, hz, rfl⟩ := List.mem_map.1 hx; exact hm z hz) (by simp) hy
  obtain ⟨x, hx, e⟩ := List.mem_map.1 this
  exact ⟨x, hx, e⟩

/-- What the search keeps of an orbit. -/
structure Oj (n : Nat) (s : Sur) (k : Nat) (q : LW) : Prop where
  oi : Oi n q
  head : q.1[0]? = some (cn s)
  word : ∀ (i : Nat) (w : List UInt8) (x : Sur), q.2[i]? = some w → q.1[i]? = some x → w.all isL = true ∧ x = cn (runS w s)
  nd : q.1.Nodup
  cl : ∀ (i : Nat) (x : Sur), i < k → q.1[i]? = some x → stp 84 x ∈ q.1 ∧ stp 83 x ∈ q.1
theorem Oj.start {n : Nat} {s : Sur} (h : Sf n s.1 s.2) : Oj n s 0 ([cn s], [[]]) :=
  ⟨Oi.start h, rfl, fun i w x hw hx => by
    cases i with
    | zero => simp at hw hx; subst hw; subst hx; exact ⟨rfl, rfl⟩
    | succ i => simp at hw, by simp, fun i x hi => absurd hi (by omega)⟩
theorem snoc_at {α : Type} {l : List α} {a x : α} {i : Nat} (h : (l ++ [a])[i]? = some x) : l[i]? = some x ∨ (i = l.length ∧ x = a) := by
  rw [List.getElem?_append] at h
  split at h
  · exact .inl h
  · rcases Nat.eq_zero_or_pos (i - l.length) with e | e
    · rw [e] at h; simp at h; exact .inr ⟨by omega, h.symm⟩
    · rw [List.getElem?_eq_none (by simp; omega)] at h; cases h
theorem Oj.add {n k : Nat} {s : Sur} {q : LW} (hs : Sf n s.1 s.2) (h : Oj n s k q) (hk : k < q.1.length) {c : UInt8} (hc : isL c = true) : Oj n s k (addL k c q) ∧ (∀ x, q.1[k]? = some x → stp c x ∈ (addL k c q).1) := by
  obtain ⟨x, w, h1, h2, h3, h4, h5, h6⟩ := h.oi.at hk
  have hoi := h.oi.add hk c
  by_cases hm : stp c x ∈ q.1
  · have e : addL k c q = q := by unfold addL; rw [h2, if_pos hm]
    rw [e]
    exact ⟨h, fun y hy => by rw [h1] at hy; obtain rfl := Option.some.inj hy; exact hm⟩
  · have e : addL k c q = (q.1 ++ [stp c x], q.2 ++ [w ++ [c]]) := by unfold addL; rw [h2, h5, if_neg hm]
    rw [e] at hoi ⊢
    obtain ⟨w1, w2⟩ := h.word k w x h4 h1
    have hl := h.oi.len
    refine ⟨⟨hoi, ?_, fun i v y hv hy => ?_, ?_, fun i y hi hy => ?_⟩, fun y hy => ?_⟩
    · show (q.1 ++ [stp c x])[0]? = _
      rw [List.getElem?_append_left (by omega)]; exact h.head
    · rcases snoc_at hv with a | ⟨a, rfl⟩ <;> rcases snoc_at hy with b | ⟨b, rfl⟩
      · exact h.word i v y a b
      · have := (List.getElem?_eq_some_iff.1 a).1; omega
      · have := (List.getElem?_eq_some_iff.1 b).1; omega
      · refine ⟨by simp [w1, hc], ?_⟩
        rw [runS_snoc, w2]
        exact stp_cn_eq (runS_sf w s hs) c
    · show (q.1 ++ [stp c x]).Nodup
      rw [List.nodup_append]
      refine ⟨h.nd, by simp, fun a ha b hb => ?_⟩
      simp at hb
      subst hb
      intro e'
      exact hm (e' ▸ ha)
    · rcases snoc_at hy with b | ⟨b, _⟩
      · obtain ⟨c1, c2⟩ := h.cl i y hi b
        exact ⟨List.mem_append_left _ c1, List.mem_append_left _ c2⟩
      · omega
    · rw [h1] at hy
      obtain rfl := Option.some.inj hy
      exact List.mem_append_right _ (by simp)
theorem Oj.two {n k : Nat} {s : Sur} {q : LW} (hs : Sf n s.1 s.2) (h : Oj n s k q) (hk : k < q.1.length) : Oj n s (k + 1) (two k q) := by
  obtain ⟨a1, a2⟩ := h.add hs hk (c := 84) (by decide)
  obtain ⟨r, er, _⟩ := addL_sub k 84 q
  have hk2 : k < (addL k 84 q).1.length := by rw [er]; simp; omega
  obtain ⟨b1, b2⟩ := a1.add hs hk2 (c := 83) (by decide)
  obtain ⟨r2, er2, _⟩ := addL_sub k 83 (addL k 84 q)
  refine ⟨b1.oi, b1.head, b1.word, b1.nd, fun i x hi hx => ?_⟩
  by_cases e : i = k
  · subst e
    have hq := List.getElem?_eq_getElem hk
    have hx1 : (addL i 84 q).1[i]? = some q.1[i] := by rw [er, List.getElem?_append_left hk]; exact hq
    have hx2 : (orb.two i q).1[i]? = some q.1[i] := by show (addL i 83 (addL i 84 q)).1[i]? = _; rw [er2, List.getElem?_append_left hk2]; exact hx1
    rw [hx2] at hx
    obtain rfl := Option.some.inj hx
    refine ⟨?_, b2 _ hx1⟩
    show _ ∈ (addL i 83 (addL i 84 q)).1
    rw [er2]
    exact List.mem_append_left _ (a2 _ hq)
  · exact b1.cl i x (by omega) hx
theorem orun_oj {n : Nat} {s : Sur} (hs : Sf n s.1 s.2) : ∀ (f k : Nat) (q q' : LW), Oj n s k q → orun f k q = some q' → Oj n s q'.1.length q'
  | 0, k, q, q', _, h => by simp [orun] at h
  | f + 1, k, q, q', hq, h => by
    unfold orun at h
    split at h
    · rename_i hk
      split at h
      · cases h
      · exact orun_oj hs f (k + 1) _ q' (hq.two hs hk) h
    · rename_i hk
      injection h with h
      subst h
      exact ⟨hq.oi, hq.head, hq.word, hq.nd, fun i x hi hx => hq.cl i x (by omega) hx⟩
theorem orb_oj {n : Nat} {s : Sur} {q : LW} (hs : Sf n s.1 s.2) (h : orb s = some q) : Oj n s q.1.length q := orun_oj hs 122 0 _ q (Oj.start hs) h
theorem nd_at {L : List Sur} (h : L.Nodup) {i j : Nat} {x : Sur} (hi : L[i]? = some x) (hj : L[j]? = some x) : i = j := by
  obtain ⟨h1, e1⟩ := List.getElem?_eq_some_iff.1 hi
  obtain ⟨h2, e2⟩ := List.getElem?_eq_some_iff.1 hj
  have hp := List.pairwise_iff_getElem.1 h
  rcases Nat.lt_trichotomy i j with q | q | q
  · exact absurd (e1.trans e2.symm) (hp i j h1 h2 q)
  · exact q
  · exact absurd (e2.trans e1.symm) (hp j i h2 h1 q)
theorem inL_isL {c : UInt8} (h : isL c = true) : isL (inL c) = true := by
  rcases isL_iff.1 h with e | e | e | e <;> simp [inL, isL, e]
theorem inL_inL {c : UInt8} (h : isL c = true) : inL (inL c) = c := by
  rcases isL_iff.1 h with e | e | e | e <;> (apply UInt8.toNat_inj.1; simp [inL, e])
theorem stp_back {n : Nat} {c : UInt8} (hc : isL c = true) {x : Sur} (hx : Sf n x.1 x.2) : stp (inL c) (stp c x) = cn x := by
  have : stp (inL c) (cn (letS c x)) = cn (letS (inL c) (letS c x)) := stp_cn_eq (letS_sf hx c) (inL c)
  rw [show stp c x = cn (letS c x) from rfl, this, letS_inv hx hc]
section
variable {n : Nat} {s : Sur} {q : LW} (hs : Sf n s.1 s.2) (h : Oj n s q.1.length q)
include hs h
theorem Oj.fix {x : Sur} (hx : x ∈ q.1) : cn x = x := by
  obtain ⟨i, hi, e⟩ := List.mem_iff_getElem.1 hx
  have hx' : q.1[i]? = some x := by rw [List.getElem?_eq_getElem hi, e]
  have hi2 : i < q.2.length := by rw [h.oi.len]; exact hi
  obtain ⟨_, w2⟩ := h.word i _ x (List.getElem?_eq_getElem hi2) hx'
  rw [w2]
  exact cn_cn (runS_sf _ s hs)
omit hs in
theorem Oj.step {c : UInt8} (hc : c = 84 ∨ c = 83) {x : Sur} (hx : x ∈ q.1) : stp c x ∈ q.1 := by
  obtain ⟨i, hi, e⟩ := List.mem_iff_getElem.1 hx
  obtain ⟨a, b⟩ := h.cl i x hi (by rw [List.getElem?_eq_getElem hi, e])
  rcases hc with rfl | rfl
  · exact a
  · exact b
theorem Oj.inj {c : UInt8} (hc : isL c = true) {x y : Sur} (hx : x ∈ q.1) (hy : y ∈ q.1) (e : stp c x = stp c y) : x = y := by
  have a := stp_back hc (h.oi.sf x hx)
  have b := stp_back hc (h.oi.sf y hy)
  rw [e, b, h.fix hs hx, h.fix hs hy] at a
  exact a.symm
theorem Oj.all {c : UInt8} (hc : isL c = true) {x : Sur} (hx : x ∈ q.1) : stp c x ∈ q.1 := by
  have key : ∀ d : UInt8, (d = 84 ∨ d = 83) → stp (inL d) x ∈ q.1 := fun d hd => by
    have hdl : isL d = true := by rcases hd with rfl | rfl <;> decide
    obtain ⟨y, hy, e⟩ := onto_self h.nd (f := stp d) (fun a ha b hb => h.inj hs hdl ha hb) (fun a ha => h.step hd ha) hx
    rw [← e, stp_back hdl (h.oi.sf y hy), h.fix hs hy]
    exact hy
  rcases isL_iff.1 hc with e | e | e | e
  · exact h.step (.inl (UInt8.toNat_inj.1 (by simpa using e))) hx
  · have := key 84 (.inl rfl)
    rwa [show inL 84 = c from UInt8.toNat_inj.1 (by simp [inL, e])] at this
  · exact h.step (.inr (UInt8.toNat_inj.1 (by simpa using e))) hx
  · have := key 83 (.inr rfl)
    rwa [show inL 83 = c from UInt8.toNat_inj.1 (by simp [inL, e])] at this
/-- What words reach lies in the orbit. -/
theorem Oj.reach : ∀ (w : List UInt8), w.all isL = true → cn (runS w s) ∈ q.1 := by
  have key : ∀ (w : List UInt8) (t : Sur), Sf n t.1 t.2 → cn t ∈ q.1 → w.all isL = true → cn (runS w t) ∈ q.1 := by
    intro w
    induction w with
    | nil => intro t _ ht _; exact ht
    | cons c w ih =>
      intro t hst ht hw
      simp only [List.all_cons, Bool.and_eq_true] at hw
      refine ih (letS c t) (letS_sf hst c) ?_ hw.2
      rw [← stp_cn_eq hst c]
      exact h.all hs hw.1 ht
  intro w hw
  refine key w s hs ?_ hw
  have := h.head
  exact List.mem_of_getElem? this
omit hs in
theorem Oj.from {x : Sur} (hx : x ∈ q.1) : ∃ w, w.all isL = true ∧ x = cn (runS w s) := by
  obtain ⟨i, hi, e⟩ := List.mem_iff_getElem.1 hx
  have hi2 : i < q.2.length := by rw [h.oi.len]; exact hi
  obtain ⟨w1, w2⟩ := h.word i _ x (List.getElem?_eq_getElem hi2) (by rw [List.getElem?_eq_getElem hi, e])
  exact ⟨_, w1, w2⟩
theorem Oj.mem {x : Sur} : x ∈ q.1 ↔ ∃ w, w.all isL = true ∧ x = cn (runS w s) :=
  ⟨h.from, fun ⟨w, h1, h2⟩ => h2 ▸ h.reach hs w h1⟩
end
theorem invW_isL {w : List UInt8} (h : w.all isL = true) : (invW w).all isL = true := by
  rw [List.all_eq_true] at *
  intro c hc
  unfold invW at hc
  rw [List.mem_reverse] at hc
  obtain ⟨d, hd, rfl⟩ := List.mem_map.1 hc
  exact inL_isL (h d hd)
/-- Two surfaces that a word relates have orbits of the same surfaces. -/
theorem orb_same {n : Nat} {s t : Sur} {q q' : LW} (hs : Sf n s.1 s.2) (ht : Sf n t.1 t.2) (h : orb s = some q) (h' : orb t = some q') {v : List UInt8} (hv : v.all isL = true) (e : cn t = cn (runS v s)) : ∀ x, x ∈ q.1 ↔ x ∈ q'.1 := by
  have J := orb_oj hs h
  have J' := orb_oj ht h'
  have sv := runS_sf v s hs
  intro x
  rw [J.mem hs, J'.mem ht]
  constructor
  · rintro ⟨w, h1, rfl⟩
    refine ⟨invW v ++ w, by simp [invW_isL hv, h1], ?_⟩
    rw [runS_append, ← cn_run w (runS_sf _ t ht), ← cn_run (invW v) ht, e, cn_run (invW v) sv, runS_inv v s hv hs, cn_run w hs]
  · rintro ⟨w, h1, rfl⟩
    refine ⟨v ++ w, by simp [hv, h1], ?_⟩
    rw [runS_append, ← cn_run w ht, e, cn_run w sv]
theorem orb_len_eq {n : Nat} {s t : Sur} {q q' : LW} (hs : Sf n s.1 s.2) (ht : Sf n t.1 t.2) (h : orb s = some q) (h' : orb t = some q') {v : List UInt8} (hv : v.all isL = true) (e : cn t = cn (runS v s)) : q.1.length = q'.1.length := by
  have m := orb_same hs ht h h' hv e
  have a := g_sub_len q.1 q'.1 (orb_oj hs h).nd (fun x hx => (m x).1 hx)
  have b := g_sub_len q'.1 q.1 (orb_oj ht h').nd (fun x hx => (m x).2 hx)
  omega
end Go.Proofs.Ytafpbnjfmieamaa.orb

/-
  Few squares: there are at most 26 canonical forms with four squares or fewer, so their orbits are found. Plain mathematics.
-/
namespace Go.Proofs.Ytafpbnjfmieamaa.orb
open Go.Proofs.Ytafpbnjfmieamaa.pm
set_option linter.unusedVariables false
set_option maxRecDepth 100000

/-- All lists of k numbers below m. -/
def tup (m : Nat) : Nat → List (List Int)
  | 0 => [[]]
  | k + 1 => (rng m).flatMap fun x => (tup m k).map fun l => x :: l
theorem mem_tup {m : Nat} : ∀ {k : Nat} {l : List Int}, l.length = k → (∀ x ∈ l, 0 ≤ x ∧ x < m) → l ∈ tup m k
  | 0, l, h, _ => by
    have := List.eq_nil_of_length_eq_zero h
    subst this
    simp [tup]
  | k + 1, l, h, hx => by
    cases l with
    | nil => simp at h
    | cons a l =>
      unfold tup
      refine List.mem_flatMap.2 ⟨a, mem_rng.2 (hx a (by simp)), List.mem_map.2 ⟨l, mem_tup (by simpa using h) (fun x q => hx x (List.mem_cons_of_mem _ q)), rfl⟩⟩
def prm (n : Nat) : List (List Int) := (tup n n).filter okB
theorem mem_prm {n : Nat} {l : List Int} (h : Ok l) (hl : l.length = n) : l ∈ prm n := by
  refine List.mem_filter.2 ⟨mem_tup hl (fun x hx => ?_), h.b⟩
  obtain ⟨i, hi, rfl⟩ := List.mem_iff_getElem.1 hx
  have h1 := h.lo i hi; have h2 := h.hi i hi
  rw [List.getD_eq_getElem?_getD, List.getElem?_eq_getElem hi, Option.getD_some] at h1 h2
  omega
/-- The canonical forms with n squares. -/
def frm (n : Nat) : List Sur := (prm n).flatMap fun R => ((prm n).filter fun U => transB R U && decide (cn (R, U) = (R, U))).map fun U => (R, U)
theorem mem_frm {n : Nat} {x : Sur} (h : Sf n x.1 x.2) (hc : cn x = x) : x ∈ frm n := by
  obtain ⟨R, U⟩ := x
  refine List.mem_flatMap.2 ⟨R, mem_prm h.r h.lr, List.mem_map.2 ⟨U, List.mem_filter.2 ⟨mem_prm h.u h.lu, ?_⟩, rfl⟩⟩
  have ht : transB R U = true := transB_iff.2 (by rw [h.lr]; exact h)
  simp [ht, hc]
set_option maxRecDepth 100000 in
theorem frm_few : ∀ n : Fin 5, (frm n.val).length ≤ 26 := by decide +kernel
theorem few_len {n k : Nat} {s : Sur} {q : LW} (hs : Sf n s.1 s.2) (hn : n ≤ 4) (h : Oj n s k q) : q.1.length ≤ 26 := by
  refine Nat.le_trans (g_sub_len q.1 (frm n) h.nd (fun x hx => ?_)) (frm_few ⟨n, by omega⟩)
  obtain ⟨i, hi, e⟩ := List.mem_iff_getElem.1 hx
  have hi2 : i < q.2.length := by rw [h.oi.len]; exact hi
  obtain ⟨_, w2⟩ := h.word i _ x (List.getElem?_eq_getElem hi2) (by rw [List.getElem?_eq_getElem hi, e])
  exact mem_frm (h.oi.sf x hx) (by rw [w2]; exact cn_cn (runS_sf _ s hs))
/-- The search ends. -/
theorem orun_some {n : Nat} {s : Sur} (hs : Sf n s.1 s.2) (hn : n ≤ 4) : ∀ (f k : Nat) (q : LW), Oj n s k q → k ≤ q.1.length → 27 ≤ f + k → ∃ q', orun f k q = some q'
  | 0, k, q, h, hk, hf => by have := few_len hs hn h; omega
  | f + 1, k, q, h, hk, hf => by
    unfold orun
    by_cases h1 : k < q.1.length
    · rw [if_pos h1]
      have h2 := h.two hs h1
      have := few_len hs hn h2
      rw [if_neg (by omega)]
      obtain ⟨r, e, _⟩ := addL_sub k 84 q
      obtain ⟨r2, e2, _⟩ := addL_sub k 83 (addL k 84 q)
      refine orun_some hs hn f (k + 1) _ h2 ?_ (by omega)
      show _ ≤ (addL k 83 (addL k 84 q)).1.length
      rw [e2, e]
      simp; omega
    · rw [if_neg h1]
      exact ⟨q, rfl⟩
theorem orb_few {n : Nat} {s : Sur} (hs : Sf n s.1 s.2) (hn : n ≤ 4) : ∃ q, orb s = some q ∧ q.1.length ≤ 26 := by
  obtain ⟨q, e⟩ := orun_some hs hn 122 0 _ (Oj.start hs) (Nat.zero_le _) (by omega)
  exact ⟨q, e, few_len hs hn (orb_oj hs e)⟩
end Go.Proofs.Ytafpbnjfmieamaa.orb

/-
  All surfaces with few squares: the permutations in order, the list of forms into which each form is put at its place; that it holds every form once, in order. Plain mathematics.
-/
namespace Go.Proofs.Ytafpbnjfmieamaa.lst
open Go.Proofs.Ytafpbnjfmieamaa.pm Go.Proofs.Ytafpbnjfmieamaa.orb
set_option linter.unusedVariables false
set_option maxRecDepth 100000

/-- One round of the list of permutations: each is lengthened by what it has not yet. -/
def prmNext (n : Nat) (L : List (List Int)) : List (List Int) := L.flatMap fun p => ((rng n).filter fun x => !decide (x ∈ p)).map fun x => p ++ [x]
def prmS (n : Nat) : Nat → List (List Int)
  | 0 => [[]]
  | k + 1 => prmNext n (prmS n k)
/-- A form put at its place, if it is not there yet. -/
def insL : List Sur → Sur → Bool → List Sur
  | [], s, d => if d then [] else [s]
  | x :: t, s, d => if !(d || decide (x = s)) && bef s x then s :: x :: insL t s true else x :: insL t s (d || decide (x = s))
/-- One pair: what it does to the list. -/
def putP (n : Nat) (acc : List Sur) (r u : List Int) : List Sur := if transB r u then insL acc (can r u n) false else acc
def rowP (n : Nat) (acc : List Sur) (r : List Int) (U : List (List Int)) : List Sur := U.foldl (fun a u => putP n a r u) acc
def allP (n : Nat) (acc : List Sur) (R U : List (List Int)) : List Sur := R.foldl (fun a r => rowP n a r U) acc
/-- All surfaces with n squares. -/
def swL (n : Nat) : List Sur := allP n [] (prmS n n) (prmS n n)
def swF (n : Int) : List Sur := if 1 ≤ n ∧ n ≤ 4 then swL n.toNat else []

/-- In ascending order, each once. -/
def asc : List Sur → Bool
  | [] => true
  | [_] => true
  | a :: b :: t => bef a b && asc (b :: t)
def numS : Nat → Nat
  | 1 => 1
  | 2 => 3
  | 3 => 7
  | 4 => 26
  | _ => 0
set_option maxRecDepth 100000 in
theorem sw_kernel : ∀ n : Fin 4, (swL (n.val + 1)).length = numS (n.val + 1) ∧ asc (swL (n.val + 1)) = true ∧ ((swL (n.val + 1)).all fun x => transB x.1 x.2 && decide (x.1.length = n.val + 1) && decide (cn x = x)) = true ∧ ((frm (n.val + 1)).all fun x => decide (x ∈ swL (n.val + 1))) = true := by decide +kernel
/-- What is said of the list. -/
structure Sw (n : Nat) : Prop where
  len : (swL n).length = numS n
  srt : asc (swL n) = true
  mem : ∀ x, x ∈ swL n ↔ Sf n x.1 x.2 ∧ cn x = x
theorem sw_ok {n : Nat} (h1 : 1 ≤ n) (h2 : n ≤ 4) : Sw n := by
  obtain ⟨a, b, c, d⟩ := sw_kernel ⟨n - 1, by omega⟩
  rw [show n - 1 + 1 = n by omega] at a b c d
  refine ⟨a, b, fun x => ⟨fun hx => ?_, fun ⟨hs, hc⟩ => ?_⟩⟩
  · have := List.all_eq_true.1 c x hx
    simp only [Bool.and_eq_true, decide_eq_true_eq] at this
    obtain ⟨⟨t1, t2⟩, t3⟩ := this
    refine ⟨?_, t3⟩
    have := transB_iff.1 t1
    rwa [t2] at this
  · have := List.all_eq_true.1 d x (mem_frm hs hc)
    simpa using this
theorem asc_pair : ∀ {L : List Sur}, asc L = true → L.Pairwise fun a b => bef a b = true
  | [], _ => List.Pairwise.nil
  | [a], _ => List.pairwise_singleton _ _
  | a :: b :: t, h => by
    simp only [asc, Bool.and_eq_true] at h
    have ih := asc_pair (L := b :: t) h.2
    refine List.pairwise_cons.2 ⟨fun c hc => ?_, ih⟩
    rcases List.mem_cons.1 hc with rfl | q
    · exact h.1
    · exact bef_trans h.1 ((List.pairwise_cons.1 ih).1 c q)
theorem Sw.nd {n : Nat} (h : Sw n) : (swL n).Nodup :=
  (asc_pair h.srt).imp fun {a b} hab e => by subst e; rw [bef_irr] at hab; cases hab
theorem Sw.num {n : Nat} (h : Sw n) : (swL n).length ≤ 26 := by
  rw [h.len]
  unfold numS
  split <;> omega
end Go.Proofs.Ytafpbnjfmieamaa.lst
