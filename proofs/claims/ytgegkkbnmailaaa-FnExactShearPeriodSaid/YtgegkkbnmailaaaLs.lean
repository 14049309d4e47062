/-
  A slice of surfaces that the call owns and that grows: each row in a block of its own.
-/
import Derived.Test.YtgegkkbnmailaaaSl
import Derived.Test.YtgegkkbnmailaaaMat
import Derived.Deep.AppendLies
namespace Go.Proofs.Ytgegkkbnmailaaa.orb
open Go.ChangeShapes Go.WideShapes Go.ChangeAt Go.RowKit
open Go.Proofs.Ytgegkkbnmailaaa.mem Go.Proofs.Ytgegkkbnmailaaa.ints Go.Proofs.Ytgegkkbnmailaaa.arr Go.Proofs.Ytgegkkbnmailaaa.pm Go.Proofs.Ytgegkkbnmailaaa.sf
set_option linter.unusedVariables false
set_option maxRecDepth 100000

/-- Block b, from lo on and below hi and not in ex, holds the row that the header h names. -/
structure Rw1 (w : World) (lo hi : Nat) (ex : Nat → Prop) (b : Nat) (h : Value) (xs : List Int) : Prop where
  lo_ : lo ≤ b
  hi_ : b < hi
  ex_ : ¬ ex b
  row : ∃ P c, h = .slice P xs.length c ∧ xs.length ≤ c ∧ 0 < xs.length ∧ Row w b (b + 1) P xs.length (V xs)
/-- The headers hs (two a surface) have the rows of L, each in a block of its own. -/
structure Ls (w : World) (lo hi : Nat) (ex : Nat → Prop) (bl : Nat → Nat × Nat) (hs : List Value) (L : List Sur) : Prop where
  len : hs.length = L.length * 2
  top : hi ≤ w.heap.size
  row : ∀ (k : Nat) (s : Sur), L[k]? = some s → ∃ a b, hs[k * 2]? = some a ∧ hs[k * 2 + 1]? = some b ∧ Rw1 w lo hi ex (bl k).1 a s.1 ∧ Rw1 w lo hi ex (bl k).2 b s.2 ∧ (bl k).1 ≠ (bl k).2
  ne : ∀ i j, i < L.length → j < L.length → i ≠ j → (bl i).1 ≠ (bl j).1 ∧ (bl i).1 ≠ (bl j).2 ∧ (bl i).2 ≠ (bl j).2
theorem Rw1.keep {w w' : World} {lo hi : Nat} {ex : Nat → Prop} {b : Nat} {h : Value} {xs : List Int} (r : Rw1 w lo hi ex b h xs) (hb : w'.heap[b]? = w.heap[b]?) (hs : w.heap.size ≤ w'.heap.size) : Rw1 w' lo hi ex b h xs := by
  obtain ⟨P, c, e, h1, h2, h3⟩ := r.row
  exact ⟨r.lo_, r.hi_, r.ex_, P, c, e, h1, h2, mat.Row.block h3 hb hs⟩
theorem Rw1.to {w : World} {lo hi lo' hi' : Nat} {ex ex' : Nat → Prop} {b : Nat} {h : Value} {xs : List Int} (r : Rw1 w lo hi ex b h xs) (h1 : lo' ≤ lo) (h2 : hi ≤ hi') (he : ¬ ex' b) : Rw1 w lo' hi' ex' b h xs :=
  ⟨Nat.le_trans h1 r.lo_, Nat.lt_of_lt_of_le r.hi_ h2, he, r.row⟩
theorem Ls.keep {w w' : World} {lo hi : Nat} {ex : Nat → Prop} {bl : Nat → Nat × Nat} {hs : List Value} {L : List Sur} (h : Ls w lo hi ex bl hs L) (hz : w.heap.size ≤ w'.heap.size)
    (hk : ∀ b, lo ≤ b → b < hi → ¬ ex b → w'.heap[b]? = w.heap[b]?) : Ls w' lo hi ex bl hs L := by
  refine ⟨h.len, Nat.le_trans h.top hz, fun k s hs' => ?_, h.ne⟩
  obtain ⟨a, b, h1, h2, r1, r2, h3⟩ := h.row k s hs'
  exact ⟨a, b, h1, h2, r1.keep (hk _ r1.lo_ r1.hi_ r1.ex_) hz, r2.keep (hk _ r2.lo_ r2.hi_ r2.ex_) hz, h3⟩
theorem Ls.to {w : World} {lo hi lo' hi' : Nat} {ex ex' : Nat → Prop} {bl : Nat → Nat × Nat} {hs : List Value} {L : List Sur} (h : Ls w lo hi ex bl hs L) (h1 : lo' ≤ lo) (h2 : hi ≤ hi') (h3 : hi' ≤ w.heap.size)
    (he : ∀ b, lo ≤ b → b < hi → ¬ ex b → ¬ ex' b) : Ls w lo' hi' ex' bl hs L := by
  refine ⟨h.len, h3, fun k s hs' => ?_, h.ne⟩
  obtain ⟨a, b, q1, q2, r1, r2, q3⟩ := h.row k s hs'
  exact ⟨a, b, q1, q2, r1.to h1 h2 (he _ r1.lo_ r1.hi_ r1.ex_), r2.to h1 h2 (he _ r2.lo_ r2.hi_ r2.ex_), q3⟩
theorem Ls.nil (w : World) (lo hi : Nat) (ex : Nat → Prop) (bl : Nat → Nat × Nat) (h : hi ≤ w.heap.size) : Ls w lo hi ex bl [] [] :=
  ⟨rfl, h, fun k s hs => by simp at hs, fun i j hi => by simp at hi⟩
/-- One surface more, whose rows lie behind. -/
theorem Ls.snoc {w : World} {lo hi hi' : Nat} {ex : Nat → Prop} {bl : Nat → Nat × Nat} {hs : List Value} {L : List Sur} (h : Ls w lo hi ex bl hs L) {g1 g2 : Nat} {a b : Value} {s : Sur}
    (r1 : Rw1 w hi hi' ex g1 a s.1) (r2 : Rw1 w hi hi' ex g2 b s.2) (hne : g1 ≠ g2) (hlo : lo ≤ hi) (hh : hi ≤ hi') (ht : hi' ≤ w.heap.size) :
    Ls w lo hi' ex (fun i => if i = L.length then (g1, g2) else bl i) (hs ++ [a, b]) (L ++ [s]) := by
  have hl := h.len
  have old : ∀ i, i < L.length → (lo ≤ (bl i).1 ∧ (bl i).1 < hi) ∧ (lo ≤ (bl i).2 ∧ (bl i).2 < hi) := fun i hi => by
    obtain ⟨a, b, _, _, q1, q2, _⟩ := h.row i _ (List.getElem?_eq_getElem hi)
    exact ⟨⟨q1.lo_, q1.hi_⟩, ⟨q2.lo_, q2.hi_⟩⟩
  have n1 := r1.lo_; have n2 := r2.lo_
  refine ⟨by simp [hl]; omega, ht, fun k t hk => ?_, fun i j hi hj hij => ?_⟩
  · rw [List.getElem?_append] at hk
    by_cases hk' : k < L.length
    · rw [if_pos hk'] at hk
      obtain ⟨a', b', q1, q2, q3, q4, q5⟩ := h.row k t hk
      refine ⟨a', b', by rw [List.getElem?_append_left (by omega)]; exact q1, by rw [List.getElem?_append_left (by omega)]; exact q2, ?_⟩
      rw [if_neg (by omega)]
      exact ⟨q3.to (Nat.le_refl _) hh q3.ex_, q4.to (Nat.le_refl _) hh q4.ex_, q5⟩
    · rw [if_neg hk'] at hk
      have e0 : k = L.length := by
        rcases Nat.lt_or_ge (k - L.length) 1 with q | q
        · omega
        · rw [List.getElem?_eq_none (by simpa using q)] at hk; cases hk
      subst e0
      simp at hk
      subst hk
      refine ⟨a, b, by rw [List.getElem?_append_right (by omega), hl]; simp, by rw [List.getElem?_append_right (by omega), hl]; simp, ?_⟩
      rw [if_pos rfl]
      exact ⟨r1.to hlo (Nat.le_refl _) r1.ex_, r2.to hlo (Nat.le_refl _) r2.ex_, hne⟩
  · simp at hi hj
    by_cases e1 : i = L.length
    · have e2 : ¬ j = L.length := by omega
      have := old j (by omega)
      simp only [if_pos e1, if_neg e2]
      omega
    · by_cases e2 : j = L.length
      · have := old i (by omega)
        simp only [if_pos e2, if_neg e1]
        omega
      · simp only [if_neg e1, if_neg e2]
        exact h.ne i j (by omega) (by omega) hij
theorem Ls.srd {w : World} {lo hi : Nat} {ex : Nat → Prop} {bl : Nat → Nat × Nat} {hs : List Value} {L : List Sur} (h : Ls w lo hi ex bl hs L) {k : Nat} {s : Sur} (hs' : L[k]? = some s) :
    ∃ a b, hs[k * 2]? = some a ∧ hs[k * 2 + 1]? = some b ∧ Srd w hi (.agg #[a, b]) s.1 s.2 := by
  obtain ⟨a, b, h1, h2, r1, r2, _⟩ := h.row k s hs'
  obtain ⟨P, c, e1, c1, p1, w1⟩ := r1.row
  obtain ⟨Q, d, e2, c2, p2, w2⟩ := r2.row
  subst e1; subst e2
  have q1 := r1.hi_; have q2 := r2.hi_; have q3 := h.top
  exact ⟨_, _, h1, h2, P, _, c, Q, _, d, rfl, sf.Rd.wider w1.rd (by omega) q3, sf.Rd.wider w2.rd (by omega) q3, c1, c2⟩
theorem add0 (g j : Nat) : (⟨g, 0, none⟩ : Addr).add j = ⟨g, 0 + j, none⟩ := by unfold Addr.add; split <;> simp_all
/-- Owned headers read. -/
theorem Ls.lrd {w : World} {lo : Nat} {ex : Nat → Prop} {bl : Nat → Nat × Nat} {hs : List Value} {L : List Sur} (h : Ls w lo w.heap.size ex bl hs L) {base c : Nat} {e : TypeId} {A : Option Addr}
    (ho : w.ownsRow base e 2 (.slice A L.length c) L.length hs) : Lrd w w.heap.size (.slice A L.length c) L := by
  rcases ho.2 with ⟨q, q0⟩ | ⟨g, cap, cur, q, hb, hh, hc, _, hz, ht⟩
  · injection q with q1 q2 q3
    exact ⟨A, L.length, c, rfl, rfl, by omega, Nat.le_refl _, fun hn => by omega⟩
  · have hlt : g < w.heap.size := by
      rcases Nat.lt_or_ge g w.heap.size with hl | hl
      · exact hl
      · rw [Array.getElem?_eq_none hl] at hh; cases hh
    injection q with q1 q2 q3
    subst q1; subst q3
    have cell : ∀ (j : Nat) (u : Value), hs[j]? = some u → w.cell? ⟨g, 0 + j, none⟩ = some u := fun j u hu => by
      have := ho.cells (g := g) rfl j u hu
      rwa [add0] at this
    refine ⟨_, L.length, c, rfl, rfl, hc, Nat.le_refl _, fun hn => ⟨g, 0, rfl, hlt, fun k s hs' => ?_⟩⟩
    obtain ⟨a, b, h1, h2, h3⟩ := h.srd hs'
    exact ⟨a, b, cell _ _ h1, by rw [Nat.add_assoc]; exact cell _ _ h2, h3⟩
/-- The rows of a fresh surface, each in a block. -/
theorem Svl.two {w : World} {lo hi : Nat} {P Q : Option Addr} {n c m d : Nat} {s : Sur} (h : Svl w lo hi (.agg #[.slice P n c, .slice Q m d]) s.1 s.2) (hn : 0 < n) (hm : 0 < m) (ex : Nat → Prop) (he : ∀ b, lo ≤ b → b < hi → ¬ ex b) :
    ∃ g1 g2, Rw1 w lo hi ex g1 (.slice P n c) s.1 ∧ Rw1 w lo hi ex g2 (.slice Q m d) s.2 ∧ g1 ≠ g2 := by
  obtain ⟨P', n', c', Q', m', d', l1, h1, l2, h2, e, a, b, e1, e2, f1, f2, f3, f4, f5, f6⟩ := h
  simp at e
  obtain ⟨⟨rfl, rfl, rfl⟩, rfl, rfl, rfl⟩ := e
  have L1 : s.1.length = n := by simpa [V] using a.1
  have L2 : s.2.length = m := by simpa [V] using b.1
  subst L1; subst L2
  obtain ⟨g1, o1, q1, q2, q3, q4⟩ := a.2.2 hn
  obtain ⟨g2, o2, p1, p2, p3, p4⟩ := b.2.2 hm
  refine ⟨g1, g2, ⟨by omega, by omega, he _ (by omega) (by omega), P, c, rfl, e1, hn, a.1, by omega, fun _ => ⟨g1, o1, q1, Nat.le_refl _, by omega, q4⟩⟩,
    ⟨by omega, by omega, he _ (by omega) (by omega), Q, d, rfl, e2, hm, b.1, by omega, fun _ => ⟨g2, o2, p1, Nat.le_refl _, by omega, p4⟩⟩, by omega⟩

/-- v has the surfaces and u the words of q, all from base on and below hi, nothing shared. -/
structure Os (w0 w : World) (base hi : Nat) (v u : Value) (q : LW) : Prop where
  ex : ∃ hs bl, w.ownsRow base 25 2 v q.1.length hs ∧ Ls w base hi (fun b => v.ownBlock = some b ∨ u.ownBlock = some b) bl hs q.1
  own : w.ownsRow base 9 1 u q.2.length (q.2.map fun x => Value.string ⟨x.toArray⟩)
  sep : ∀ b, v.ownBlock = some b → ¬ u.ownBlock = some b
  vlt : ∀ b, v.ownBlock = some b → b < hi
  ult : ∀ b, u.ownBlock = some b → b < hi
  bel : Below base w0 w
  low : base ≤ hi
  top : hi ≤ w.heap.size
theorem own_block_keep {w w' : World} {base : Nat} {e : TypeId} {size n : Nat} {v : Value} {xs : List Value} (h : w.ownsRow base e size v n xs) (hb : ∀ b, v.ownBlock = some b → w'.heap[b]? = w.heap[b]?) : w'.ownsRow base e size v n xs := by
  refine ⟨h.1, ?_⟩
  rcases h.2 with q | ⟨g, cap, cur, q1, q2, q3, q4⟩
  · exact .inl q
  · exact .inr ⟨g, cap, cur, q1, q2, by rw [hb g (by rw [q1]; rfl)]; exact q3, q4⟩
theorem Os.keep {w0 w w' : World} {base hi B : Nat} {v u : Value} {q : LW} (h : Os w0 w base hi v u q) (hb : Below B w w') (hB : hi ≤ B) : Os w0 w' base hi v u q := by
  obtain ⟨hs, bl, o1, r⟩ := h.ex
  exact ⟨⟨hs, bl, own_block_keep o1 (fun b e => hb.block b (Nat.lt_of_lt_of_le (h.vlt b e) hB)), r.keep hb.size (fun b _ q2 _ => hb.block b (by omega))⟩,
    own_block_keep h.own (fun b e => hb.block b (Nat.lt_of_lt_of_le (h.ult b e) hB)), h.sep, h.vlt, h.ult, h.bel.trans (hb.mono (Nat.le_trans h.low hB)), h.low, Nat.le_trans h.top hb.size⟩
theorem Os.up {w0 w : World} {base hi : Nat} {v u : Value} {q : LW} (h : Os w0 w base hi v u q) : Os w0 w base w.heap.size v u q := by
  obtain ⟨hs, bl, o1, r⟩ := h.ex
  exact ⟨⟨hs, bl, o1, r.to (Nat.le_refl _) h.top (Nat.le_refl _) (fun _ _ _ q => q)⟩, h.own, h.sep, fun b e => Nat.lt_of_lt_of_le (h.vlt b e) h.top, fun b e => Nat.lt_of_lt_of_le (h.ult b e) h.top, h.bel, Nat.le_trans h.low h.top, Nat.le_refl _⟩
theorem Os.forms {w0 w : World} {base hi : Nat} {v u : Value} {q : LW} (h : Os w0 w base hi v u q) : ∃ A c B d, v = .slice A q.1.length c ∧ u = .slice B q.2.length d := by
  obtain ⟨hs, bl, o1, r⟩ := h.ex
  obtain ⟨A, c, e1⟩ := mem.own_form o1
  obtain ⟨B, d, e2⟩ := mem.own_form h.own
  exact ⟨A, c, B, d, e1, e2⟩
theorem Os.lrd {w0 w : World} {base hi c : Nat} {A : Option Addr} {u : Value} {q : LW} (h : Os w0 w base hi (.slice A q.1.length c) u q) : Lrd w w.heap.size (.slice A q.1.length c) q.1 := by
  obtain ⟨hs, bl, o1, r⟩ := h.up.ex
  exact r.lrd o1
/-- A surface is appended. -/
theorem Os.push {w0 w W w' : World} {base hi lo g cap : Nat} {v u : Value} {q : LW} {s : Sur} {P Q : Option Addr} {n c m d k : Nat} {hs : List Value} {bl : Nat → Nat × Nat} (h : Os w0 w base hi v u q)
    (r : Ls w base hi (fun b => v.ownBlock = some b ∨ u.ownBlock = some b) bl hs q.1)
    (hx : Svl w lo w.heap.size (.agg #[.slice P n c, .slice Q m d]) s.1 s.2) (hn : 0 < n) (hm : 0 < m) (hlo : hi ≤ lo) (hW : Below w.heap.size w W) (hk : k = q.1.length)
    (ho : w'.ownsRow base 25 2 (.slice (some ⟨g, 0, none⟩) (k + 1) cap) (k + 1) (hs ++ [.slice P n c, .slice Q m d])) (hg : W.grownBy w' v.ownBlock) (hb : v.ownBlock = some g ∨ g = W.heap.size) (hlt : g < w'.heap.size) :
    Os w0 w' base w'.heap.size (.slice (some ⟨g, 0, none⟩) (k + 1) cap) u (q.1 ++ [s], q.2) := by
  subst hk
  have hz : w.heap.size ≤ w'.heap.size := Nat.le_trans hW.size hg.size
  have t1 := h.top; have t2 := hW.size; have t3 := hg.size
  have far : ∀ b, b < w.heap.size → ¬ v.ownBlock = some b → w'.heap[b]? = w.heap[b]? := fun b hb1 hb2 => (hg.block b (by omega) (fun e => hb2 e.symm)).trans (hW.block b hb1)
  obtain ⟨g1, g2, r1, r2, hne⟩ := Svl.two hx hn hm (fun b => v.ownBlock = some b ∨ u.ownBlock = some b) (fun b b1 b2 e => by
    rcases e with e | e
    · have := h.vlt b e; omega
    · have := h.ult b e; omega)
  have L1 := r.keep hz (fun b q1 q2 q3 => far b (by omega) (fun e => q3 (.inl e)))
  have R1 := (r1.keep (far _ r1.hi_ (fun e => r1.ex_ (.inl e))) hz).to (ex' := fun b => v.ownBlock = some b ∨ u.ownBlock = some b) hlo (Nat.le_refl _) r1.ex_
  have R2 := (r2.keep (far _ r2.hi_ (fun e => r2.ex_ (.inl e))) hz).to (ex' := fun b => v.ownBlock = some b ∨ u.ownBlock = some b) hlo (Nat.le_refl _) r2.ex_
  have L2 := L1.snoc R1 R2 hne h.low (by omega) hz
  have hgb : ∀ b, b < w.heap.size → g = b → v.ownBlock = some b := fun b hb1 e => by
    rcases hb with q | q
    · rw [q, e]
    · omega
  refine ⟨⟨_, _, by simpa using ho, L2.to (Nat.le_refl _) hz (Nat.le_refl _) (fun b b1 b2 e e' => ?_)⟩, own_block_keep h.own (fun b e => far b (by have := h.ult b e; omega) (fun e' => h.sep b e' e)), fun b e e' => ?_, fun b e => ?_, fun b e => by have := h.ult b e; omega, ?_, by have := h.low; omega, Nat.le_refl _⟩
  · rcases e' with e' | e'
    · have e2 : g = b := by simpa [Value.ownBlock] using e'
      rcases hb with q | q
      · exact e (.inl (by rw [q, e2]))
      · subst e2
        omega
    · exact e (.inr e')
  · have e2 : g = b := by simpa [Value.ownBlock] using e
    have hb1 : b < w.heap.size := by have := h.ult b e'; omega
    exact h.sep b (hgb b hb1 e2) e'
  · have e2 : g = b := by simpa [Value.ownBlock] using e
    omega
  · exact h.bel.trans ⟨hg.os.trans hW.os, hg.tape.trans hW.tape, hg.output.trans hW.output, hz, fun b hb1 => far b (by have := h.low; omega) (fun e => by
      obtain ⟨hs', bl', o1, _⟩ := h.ex
      have := (o1.lt b e).1
      omega)⟩
/-- A word is appended. -/
theorem Os.pushW {w0 w W w' : World} {base hi g cap k : Nat} {v u : Value} {q : LW} {x : List UInt8} (h : Os w0 w base hi v u q) (hW : Below w.heap.size w W) (hk : k = q.2.length)
    (ho : w'.ownsRow base 9 1 (.slice (some ⟨g, 0, none⟩) (k + 1) cap) (k + 1) ((q.2.map fun x => Value.string ⟨x.toArray⟩) ++ [.string ⟨x.toArray⟩])) (hg : W.grownBy w' u.ownBlock) (hb : u.ownBlock = some g ∨ g = W.heap.size) (hlt : g < w'.heap.size) :
    Os w0 w' base w'.heap.size v (.slice (some ⟨g, 0, none⟩) (k + 1) cap) (q.1, q.2 ++ [x]) := by
  subst hk
  obtain ⟨hs, bl, o1, r⟩ := h.ex
  have hz : w.heap.size ≤ w'.heap.size := Nat.le_trans hW.size hg.size
  have t1 := h.top; have t2 := hW.size; have t3 := hg.size
  have far : ∀ b, b < w.heap.size → ¬ u.ownBlock = some b → w'.heap[b]? = w.heap[b]? := fun b hb1 hb2 => (hg.block b (by omega) (fun e => hb2 e.symm)).trans (hW.block b hb1)
  have L1 := r.keep hz (fun b q1 q2 q3 => far b (by omega) (fun e => q3 (.inr e)))
  have hgb : ∀ b, b < w.heap.size → g = b → u.ownBlock = some b := fun b hb1 e => by
    rcases hb with q | q
    · rw [q, e]
    · omega
  refine ⟨⟨_, _, own_block_keep o1 (fun b e => far b (by have := h.vlt b e; omega) (fun e' => h.sep b e e')), L1.to (Nat.le_refl _) (by omega) (Nat.le_refl _) (fun b b1 b2 e e' => ?_)⟩, by simpa using ho, fun b e e' => ?_, fun b e => by have := h.vlt b e; omega, fun b e => ?_, ?_, by have := h.low; omega, Nat.le_refl _⟩
  · rcases e' with e' | e'
    · exact e (.inl e')
    · have e2 : g = b := by simpa [Value.ownBlock] using e'
      exact e (.inr (hgb b (by omega) e2))
  · have e2 : g = b := by simpa [Value.ownBlock] using e'
    have hb1 : b < w.heap.size := by have := h.vlt b e; omega
    exact h.sep b e (hgb b hb1 e2)
  · have e2 : g = b := by simpa [Value.ownBlock] using e
    omega
  · exact h.bel.trans ⟨hg.os.trans hW.os, hg.tape.trans hW.tape, hg.output.trans hW.output, hz, fun b hb1 => far b (by have := h.low; omega) (fun e => by
      have := (h.own.lt b e).1
      omega)⟩
/-- A word of the list. -/
theorem Os.word {w0 w : World} {base hi m d k : Nat} {v : Value} {B : Option Addr} {q : LW} {x : List UInt8} (h : Os w0 w base hi v (.slice B m d) q) (hx : q.2[k]? = some x) :
    ∃ g, B = some ⟨g, 0, none⟩ ∧ w.cell? ⟨g, 0 + k, none⟩ = some (.string ⟨x.toArray⟩) ∧ g < hi := by
  rcases h.own.2 with ⟨e, e0⟩ | ⟨g, cap, cur, e, _⟩
  · have := (List.getElem?_eq_some_iff.1 hx).1
    omega
  · injection e with e1 e2 e3
    subst e1; subst e2
    have := h.own.cells (g := g) rfl k (.string ⟨x.toArray⟩) (by simp [hx])
    rw [add0] at this
    exact ⟨g, rfl, this, h.ult g rfl⟩
end Go.Proofs.Ytgegkkbnmailaaa.orb
