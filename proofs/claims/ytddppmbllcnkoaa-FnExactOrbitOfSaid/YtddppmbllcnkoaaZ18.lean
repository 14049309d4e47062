import Derived.Test.YtddppmbllcnkoaaZ17
import Derived.Test.YtddppmbllcnkoaaZ15
import Derived.Deep.AppendLies
import Derived.Test.YtddppmbllcnkoaaZ14
import Derived.Test.YtddppmbllcnkoaaZ04
import Derived.Great.BuildSlice
import Derived.Test.YtddppmbllcnkoaaZ16
import Derived.Calls
import Derived.WalkKit
import Derived.Conc.LoneCalls
/-
  A slice of surfaces that the call owns and that grows: each row in a block of its own.
-/
namespace Go.Proofs.Ytddppmbllcnkoaa.orb
open Go.ChangeShapes Go.WideShapes Go.ChangeAt Go.RowKit
open Go.Proofs.Ytddppmbllcnkoaa.mem Go.Proofs.Ytddppmbllcnkoaa.ints Go.Proofs.Ytddppmbllcnkoaa.arr Go.Proofs.Ytddppmbllcnkoaa.pm Go.Proofs.Ytddppmbllcnkoaa.sf
set_option linter.unusedVariables false
set_option maxRecDepth 100000

/-- Block b, from lo on and below hi and not in ex, holds the row that the header h names. -/
structure Rw1 (w : World) (lo hi : Nat) (ex : Nat → Prop) (b : Nat) (h : Value) (xs : List Int) : Prop where
  lo_ : lo ≤ b
  hi_ : b < hi
  ex_ : ¬ ex b
  row : ∃ P c, h = .slice P xs.length c ∧ xs.length ≤ c ∧ 0 < xs.length ∧ Row w b (b + 1) P xs.length (V xs)
/-- The headers hs (two a surface) have the rows of L, each in a block of its own. -/
structure Ls (w : World) (lo hi : Nat) (ex : Nat → Prop) (bl : Nat → Nat × Nat) (hs : List Value) (L : List Sur) : Prop where
  len : hs.length = L.length * 2
  top : hi ≤ w.heap.size
  row : ∀ (k : Nat) (s : Sur), L[k]? = some s → ∃ a b, hs[k * 2]? = some a ∧ hs[k * 2 + 1]? = some b ∧ Rw1 w lo hi ex (bl k).1 a s.1 ∧ Rw1 w lo hi ex (bl k).2 b s.2 ∧ (bl k).1 ≠ (bl k).2
  ne : ∀ i j, i < L.length → j < L.length → i ≠ j → (bl i).1 ≠ (bl j).1 ∧ (bl i).1 ≠ (bl j).2 ∧ (bl i).2 ≠ (bl j).2
theorem Rw1.keep {w w' : World} {lo hi : Nat} {ex : Nat → Prop} {b : Nat} {h : Value} {xs : List Int} (r : Rw1 w lo hi ex b h xs) (hb : w'.heap[b]? = w.heap[b]?) (hs : w.heap.size ≤ w'.heap.size) : Rw1 w' lo hi ex b h xs := by
  obtain ⟨P, c, e, h1, h2, h3⟩ := r.row
  exact ⟨r.lo_, r.hi_, r.ex_, P, c, e, h1, h2, mat.Row.block h3 hb hs⟩
theorem Rw1.to {w : World} {lo hi lo' hi' : Nat} {ex ex' : Nat → Prop} {b : Nat} {h : Value} {xs : List Int} (r : Rw1 w lo hi ex b h xs) (h1 : lo' ≤ lo) (h2 : hi ≤ hi') (he : ¬ ex' b) : Rw1 w lo' hi' ex' b h xs :=
  ⟨Nat.le_trans h1 r.lo_, Nat.lt_of_lt_of_le r.hi_ h2, he, r.row⟩
theorem Ls.keep {w w' : World} {lo hi : Nat} {ex : Nat → Prop} {bl : Nat → Nat × Nat} {hs : List Value} {L : List Sur} (h : Ls w lo hi ex bl hs L) (hz : w.heap.size ≤ w'.heap.size)
    (hk : ∀ b, lo ≤ b → b < hi → ¬ ex b → w'.heap[b]? = w.heap[b]?) : Ls w' lo hi ex bl hs L := by
  refine ⟨h.len, Nat.le_trans h.top hz, fun k s hs' => ?_, h.ne⟩
  obtain ⟨a, b, h1, h2, r1, r2, h3⟩ := h.row k s hs'
  exact ⟨a, b, h1, h2, r1.keep (hk _ r1.lo_ r1.hi_ r1.ex_) hz, r2.keep (hk _ r2.lo_ r2.hi_ r2.ex_) hz, h3⟩
theorem Ls.to {w : World} {lo hi lo' hi' : Nat} {ex ex' : Nat → Prop} {bl : Nat → Nat × Nat} {hs : List Value} {L : List Sur} (h : Ls w lo hi ex bl hs L) (h1 : lo' ≤ lo) (h2 : hi ≤ hi') (h3 : hi' ≤ w.heap.size)
    (he : ∀ b, lo ≤ b → b < hi → ¬ ex b → ¬ ex' b) : Ls w lo' hi' ex' bl hs L := by
  refine ⟨h.len, h3, fun k s hs' => ?_, h.ne⟩
  obtain ⟨a, b, q1, q2, r1, r2, q3⟩ := h.row k s hs'
  exact ⟨a, b, q1, q2, r1.to h1 h2 (he _ r1.lo_ r1.hi_ r1.ex_), r2.to h1 h2 (he _ r2.lo_ r2.hi_ r2.ex_), q3⟩
theorem Ls.nil (w : World) (lo hi : Nat) (ex : Nat → Prop) (bl : Nat → Nat × Nat) (h : hi ≤ w.heap.size) : Ls w lo hi ex bl [] [] :=
  ⟨rfl, h, fun k s hs => by simp at hs, fun i j hi => by simp at hi⟩
/-- One surface more, whose rows lie behind. -/
theorem Ls.snoc {w : World} {lo hi hi' : Nat} {ex : Nat → Prop} {bl : Nat → Nat × Nat} {hs : List Value} {L : List Sur} (h : Ls w lo hi ex bl hs L) {g1 g2 : Nat} {a b : Value} {s : Sur}
    (r1 : Rw1 w hi hi' ex g1 a s.1) (r2 : Rw1 w hi hi' ex g2 b s.2) (hne : g1 ≠ g2) (hlo : lo ≤ hi) (hh : hi ≤ hi') (ht : hi' ≤ w.heap.size) :
    Ls w lo hi' ex (fun i => if i = L.length then (g1, g2) else bl i) (hs ++ [a, b]) (L ++ [s]) := by
  have hl := h.len
  have old : ∀ i, i < L.length → (lo ≤ (bl i).1 ∧ (bl i).1 < hi) ∧ (lo ≤ (bl i).2 ∧ (bl i).2 < hi) := fun i hi => by
    obtain ⟨a, b, _, _, q1, q2, _⟩ := h.row i _ (List.getElem?_eq_getElem hi)
    exact ⟨⟨q1.lo_, q1.hi_⟩, ⟨q2.lo_, q2.hi_⟩⟩
  have n1 := r1.lo_; have n2 := r2.lo_
  refine ⟨by simp [hl]; omega, ht, fun k t hk => ?_, fun i j hi hj hij => ?_⟩
  · rw [List.getElem?_append] at hk
    by_cases hk' : k < L.length
    · rw [if_pos hk'] at hk
      obtain ⟨a', b', q1, q2, q3, q4, q5⟩ := h.row k t hk
      refine ⟨a', b', by rw [List.getElem?_append_left (by omega)]; exact q1, by rw [List.getElem?_append_left (by omega)]; exact q2, ?_⟩
      rw [if_neg (by omega)]
      exact ⟨q3.to (Nat.le_refl _) hh q3.ex_, q4.to (Nat.le_refl _) hh q4.ex_, q5⟩
    · rw [if_neg hk'] at hk
      have e0 : k = L.length := by
        rcases Nat.lt_or_ge (k - L.length) 1 with q | q
        · omega
        · rw [List.getElem?_eq_none (by simpa using q)] at hk; cases hk
      subst e0
      simp at hk
      subst hk
      refine ⟨a, b, by rw [List.getElem?_append_right (by omega), hl]; simp, by rw [List.getElem?_append_right (by omega), hl]; simp, ?_⟩
      rw [if_pos rfl]
      exact ⟨r1.to hlo (Nat.le_refl _) r1.ex_, r2.to hlo (Nat.le_refl _) r2.ex_, hne⟩
  · simp at hi hj
    by_cases e1 : i = L.length
    · have e2 : ¬ j = L.length := by omega
      have := old j (by omega)
      simp only [if_pos e1, if_neg e2]
      omega
    · by_cases e2 : j = L.length
      · have := old i (by omega)
        simp only [if_pos e2, if_neg e1]
        omega
      · simp only [if_neg e1, if_neg e2]
        exact h.ne i j (by omega) (by omega) hij
theorem Ls.srd {w : World} {lo hi : Nat} {ex : Nat → Prop} {bl : Nat → Nat × Nat} {hs : List Value} {L : List Sur} (h : Ls w lo hi ex bl hs L) {k : Nat} {s : Sur} (hs' : L[k]? = some s) :
    ∃ a b, hs[k * 2]? = some a ∧ hs[k * 2 + 1]? = some b ∧ Srd w hi (.agg #[a, b]) s.1 s.2 := by
  obtain ⟨a, b, h1, h2, r1, r2, _⟩ := h.row k s hs'
  obtain ⟨P, c, e1, c1, p1, w1⟩ := r1.row
  obtain ⟨Q, d, e2, c2, p2, w2⟩ := r2.row
  subst e1; subst e2
  have q1 := r1.hi_; have q2 := r2.hi_; have q3 := h.top
  exact ⟨_, _, h1, h2, P, _, c, Q, _, d, rfl, sf.Rd.wider w1.rd (by omega) q3, sf.Rd.wider w2.rd (by omega) q3, c1, c2⟩
theorem add0 (g j : Nat) : (⟨g, 0, none⟩ : Addr).add j = ⟨g, 0 + j, none⟩ := by unfold Addr.add; split <;> simp_all
/-- Owned headers read. -/
theorem Ls.lrd {w : World} {lo : Nat} {ex : Nat → Prop} {bl : Nat → Nat × Nat} {hs : List Value} {L : List Sur} (h : Ls w lo w.heap.size ex bl hs L) {base c : Nat} {e : TypeId} {A : Option Addr}
    (ho : w.ownsRow base e 2 (.slice A L.length c) L.length hs) : Lrd w w.heap.size (.slice A L.length c) L := by
  rcases ho.2 with ⟨q, q0⟩ | ⟨g, cap, cur, q, hb, hh, hc, _, hz, ht⟩
  · injection q with q1 q2 q3
    exact ⟨A, L.length, c, rfl, rfl, by omega, Nat.le_refl _, fun hn => by omega⟩
  · have hlt : g < w.heap.size := by
      rcases Nat.lt_or_ge g w.heap.size with hl | hl
      · exact hl
      · rw [Array.getElem?_eq_none hl] at hh; cases hh
    injection q with q1 q2 q3
    subst q1; subst q3
    have cell : ∀ (j : Nat) (u : Value), hs[j]? = some u → w.cell? ⟨g, 0 + j, none⟩ = some u := fun j u hu => by
      have := ho.cells (g := g) rfl j u hu
      rwa [add0] at this
    refine ⟨_, L.length, c, rfl, rfl, hc, Nat.le_refl _, fun hn => ⟨g, 0, rfl, hlt, fun k s hs' => ?_⟩⟩
    obtain ⟨a, b, h1, h2, h3⟩ := h.srd hs'
    exact ⟨a, b, cell _ _ h1, by rw [Nat.add_assoc]; exact cell _ _ h2, h3⟩
/-- The rows of a fresh surface, each in a block. -/
theorem Svl.two {w : World} {lo hi : Nat} {P Q : Option Addr} {n c m d : Nat} {s : Sur} (h : Svl w lo hi (.agg #[.slice P n c, .slice Q m d]) s.1 s.2) (hn : 0 < n) (hm : 0 < m) (ex : Nat → Prop) (he : ∀ b, lo ≤ b → b < hi → ¬ ex b) :
    ∃ g1 g2, Rw1 w lo hi ex g1 (.slice P n c) s.1 ∧ Rw1 w lo hi ex g2 (.slice Q m d) s.2 ∧ g1 ≠ g2 := by
  obtain ⟨P', n', c', Q', m', d', l1, h1, l2, h2, e, a, b, e1, e2, f1, f2, f3, f4, f5, f6⟩ := h
  simp at e
  obtain ⟨⟨rfl, rfl, rfl⟩, rfl, rfl, rfl⟩ := e
  have L1 : s.1.length = n := by simpa [V] using a.1
  have L2 : s.2.length = m := by simpa [V] using b.1
  subst L1; subst L2
  obtain ⟨g1, o1, q1, q2, q3, q4⟩ := a.2.2 hn
  obtain ⟨g2, o2, p1, p2, p3, p4⟩ := b.2.2 hm
  refine ⟨g1, g2, ⟨by omega, by omega, he _ (by omega) (by omega), P, c, rfl, e1, hn, a.1, by omega, fun _ => ⟨g1, o1, q1, Nat.le_refl _, by omega, q4⟩⟩,
    ⟨by omega, by omega, he _ (by omega) (by omega), Q, d, rfl, e2, hm, b.1, by omega, fun _ => ⟨g2, o2, p1, Nat.le_refl _, by omega, p4⟩⟩, by omega⟩

/-- v has the surfaces and u the words of q, all from base on and below hi, nothing shared. -/
structure Os (w0 w : World) (base hi : Nat) (v u : Value) (q : LW) : Prop where
  ex : ∃ hs bl, w.ownsRow base 25 2 v q.1.length hs ∧ Ls w base hi (fun b => v.ownBlock = some b ∨ u.ownBlock = some b) bl hs q.1
  own : w.ownsRow base 9 1 u q.2.length (q.2.map fun x => Value.string ⟨x.toArray⟩)
  sep : ∀ b, v.ownBlock = some b → ¬ u.ownBlock = some b
  vlt : ∀ b, v.ownBlock = some b → b < hi
  ult : ∀ b, u.ownBlock = some b → b < hi
  bel : Below base w0 w
  low : base ≤ hi
  top : hi ≤ w.heap.size
theorem own_block_keep {w w' : World} {base : Nat} {e : TypeId} {size n : Nat} {v : Value} {xs : List Value} (h : w.ownsRow base e size v n xs) (hb : ∀ b, v.ownBlock = some b → w'.heap[b]? = w.heap[b]?) : w'.ownsRow base e size v n xs := by
  refine ⟨h.1, ?_⟩
  rcases h.2 with q | ⟨g, cap, cur, q1, q2, q3, q4⟩
  · exact .inl q
  · exact .inr ⟨g, cap, cur, q1, q2, by rw [hb g (by rw [q1]; rfl)]; exact q3, q4⟩
theorem Os.keep {w0 w w' : World} {base hi B : Nat} {v u : Value} {q : LW} (h : Os w0 w base hi v u q) (hb : Below B w w') (hB : hi ≤ B) : Os w0 w' base hi v u q := by
  obtain ⟨hs, bl, o1, r⟩ := h.ex
  exact ⟨⟨hs, bl, own_block_keep o1 (fun b e => hb.block b (Nat.lt_of_lt_of_le (h.vlt b e) hB)), r.keep hb.size (fun b _ q2 _ => hb.block b (by omega))⟩,
    own_block_keep h.own (fun b e => hb.block b (Nat.lt_of_lt_of_le (h.ult b e) hB)), h.sep, h.vlt, h.ult, h.bel.trans (hb.mono (Nat.le_trans h.low hB)), h.low, Nat.le_trans h.top hb.size⟩
theorem Os.up {w0 w : World} {base hi : Nat} {v u : Value} {q : LW} (h : Os w0 w base hi v u q) : Os w0 w base w.heap.size v u q := by
  obtain ⟨hs, bl, o1, r⟩ := h.ex
  exact ⟨⟨hs, bl, o1, r.to (Nat.le_refl _) h.top (Nat.le_refl _) (fun _ _ _ q => q)⟩, h.own, h.sep, fun b e => Nat.lt_of_lt_of_le (h.vlt b e) h.top, fun b e => Nat.lt_of_lt_of_le (h.ult b e) h.top, h.bel, Nat.le_trans h.low h.top, Nat.le_refl _⟩
theorem Os.forms {w0 w : World} {base hi : Nat} {v u : Value} {q : LW} (h : Os w0 w base hi v u q) : ∃ A c B d, v = .slice A q.1.length c ∧ u = .slice B q.2.length d := by
  obtain ⟨hs, bl, o1, r⟩ := h.ex
  obtain ⟨A, c, e1⟩ := mem.own_form o1
  obtain ⟨B, d, e2⟩ := mem.own_form h.own
  exact ⟨A, c, B, d, e1, e2⟩
theorem Os.lrd {w0 w : World} {base hi c : Nat} {A : Option Addr} {u : Value} {q : LW} (h : Os w0 w base hi (.slice A q.1.length c) u q) : Lrd w w.heap.size (.slice A q.1.length c) q.1 := by
  obtain ⟨hs, bl, o1, r⟩ := h.up.ex
  exact r.lrd o1
/-- A surface is appended. -/
theorem Os.push {w0 w W w' : World} {base hi lo g cap : Nat} {v u : Value} {q : LW} {s : Sur} {P Q : Option Addr} {n c m d k : Nat} {hs : List Value} {bl : Nat → Nat × Nat} (h : Os w0 w base hi v u q)
    (r : Ls w base hi (fun b => v.ownBlock = some b ∨ u.ownBlock = some b) bl hs q.1)
    (hx : Svl w lo w.heap.size (.agg #[.slice P n c, .slice Q m d]) s.1 s.2) (hn : 0 < n) (hm : 0 < m) (hlo : hi ≤ lo) (hW : Below w.heap.size w W) (hk : k = q.1.length)
    (ho : w'.ownsRow base 25 2 (.slice (some ⟨g, 0, none⟩) (k + 1) cap) (k + 1) (hs ++ [.slice P n c, .slice Q m d])) (hg : W.grownBy w' v.ownBlock) (hb : v.ownBlock = some g ∨ g = W.heap.size) (hlt : g < w'.heap.size) :
    Os w0 w' base w'.heap.size (.slice (some ⟨g, 0, none⟩) (k + 1) cap) u (q.1 ++ [s], q.2) := by
  subst hk
  have hz : w.heap.size ≤ w'.heap.size := Nat.le_trans hW.size hg.size
  have t1 := h.top; have t2 := hW.size; have t3 := hg.size
  have far : ∀ b, b < w.heap.size → ¬ v.ownBlock = some b → w'.heap[b]? = w.heap[b]? := fun b hb1 hb2 => (hg.block b (by omega) (fun e => hb2 e.symm)).trans (hW.block b hb1)
  obtain ⟨g1, g2, r1, r2, hne⟩ := Svl.two hx hn hm (fun b => v.ownBlock = some b ∨ u.ownBlock = some b) (fun b b1 b2 e => by
    rcases e with e | e
    · have := h.vlt b e; omega
    · have := h.ult b e; omega)
  have L1 := r.keep hz (fun b q1 q2 q3 => far b (by omega) (fun e => q3 (.inl e)))
  have R1 := (r1.keep (far _ r1.hi_ (fun e => r1.ex_ (.inl e))) hz).to (ex' := fun b => v.ownBlock = some b ∨ u.ownBlock = some b) hlo (Nat.le_refl _) r1.ex_
  have R2 := (r2.keep (far _ r2.hi_ (fun e => r2.ex_ (.inl e))) hz).to (ex' := fun b => v.ownBlock = some b ∨ u.ownBlock = some b) hlo (Nat.le_refl _) r2.ex_
  have L2 := L1.snoc R1 R2 hne h.low (by omega) hz
  have hgb : ∀ b, b < w.heap.size → g = b → v.ownBlock = some b := fun b hb1 e => by
    rcases hb with q | q
    · rw [q, e]
    · omega
  refine ⟨⟨_, _, by simpa using ho, L2.to (Nat.le_refl _) hz (Nat.le_refl _) (fun b b1 b2 e e' => ?_)⟩, own_block_keep h.own (fun b e => far b (by have := h.ult b e; omega) (fun e' => h.sep b e' e)), fun b e e' => ?_, fun b e => ?_, fun b e => by have := h.ult b e; omega, ?_, by have := h.low; omega, Nat.le_refl _⟩
  · rcases e' with e' | e'
    · have e2 : g = b := by simpa [Value.ownBlock] using e'
      rcases hb with q | q
      · exact e (.inl (by rw [q, e2]))
      · subst e2
        omega
    · exact e (.inr e')
  · have e2 : g = b := by simpa [Value.ownBlock] using e
    have hb1 : b < w.heap.size := by have := h.ult b e'; omega
    exact h.sep b (hgb b hb1 e2) e'
  · have e2 : g = b := by simpa [Value.ownBlock] using e
    omega
  · exact h.bel.trans ⟨hg.os.trans hW.os, hg.tape.trans hW.tape, hg.output.trans hW.output, hz, fun b hb1 => far b (by have := h.low; omega) (fun e => by
      obtain ⟨hs', bl', o1, _⟩ := h.ex
      have := (o1.lt b e).1
      omega)⟩
/-- A word is appended. -/
theorem Os.pushW {w0 w W w' : World} {base hi g cap k : Nat} {v u : Value} {q : LW} {x : List UInt8} (h : Os w0 w base hi v u q) (hW : Below w.heap.size w W) (hk : k = q.2.length)
    (ho : w'.ownsRow base 9 1 (.slice (some ⟨g, 0, none⟩) (k + 1) cap) (k + 1) ((q.2.map fun x => Value.string ⟨x.toArray⟩) ++ [.string ⟨x.toArray⟩])) (hg : W.grownBy w' u.ownBlock) (hb : u.ownBlock = some g ∨ g = W.heap.size) (hlt : g < w'.heap.size) :
    Os w0 w' base w'.heap.size v (.slice (some ⟨g, 0, none⟩) (k + 1) cap) (q.1, q.2 ++ [x]) := by
  subst hk
  obtain ⟨hs, bl, o1, r⟩ := h.ex
  have hz : w.heap.size ≤ w'.heap.size := Nat.le_trans hW.size hg.size
  have t1 := h.top; have t2 := hW.size; have t3 := hg.size
  have far : ∀ b, b < w.heap.size → ¬ u.ownBlock = some b → w'.heap[b]? = w.heap[b]? := fun b hb1 hb2 => (hg.block b (by omega) (fun e => hb2 e.symm)).trans (hW.block b hb1)
  have L1 := r.keep hz (fun b q1 q2 q3 => far b (by omega) (fun e => q3 (.inr e)))
  have hgb : ∀ b, b < w.heap.size → g = b → u.ownBlock = some b := fun b hb1 e => by
    rcases hb with q | q
    · rw [q, e]
    · omega
  refine ⟨⟨_, _, own_block_keep o1 (fun b e => far b (by have := h.vlt b e; omega) (fun e' => h.sep b e e')), L1.to (Nat.le_refl _) (by omega) (Nat.le_refl _) (fun b b1 b2 e e' => ?_)⟩, by simpa using ho, fun b e e' => ?_, fun b e => by have := h.vlt b e; omega, fun b e => ?_, ?_, by have := h.low; omega, Nat.le_refl _⟩
  · rcases e' with e' | e'
    · exact e (.inl e')
    · have e2 : g = b := by simpa [Value.ownBlock] using e'
      exact e (.inr (hgb b (by omega) e2))
  · have e2 : g = b := by simpa [Value.ownBlock] using e'
    have hb1 : b < w.heap.size := by have := h.vlt b e; omega
    exact h.sep b e (hgb b hb1 e2)
  · have e2 : g = b := by simpa [Value.ownBlock] using e
    omega
  · exact h.bel.trans ⟨hg.os.trans hW.os, hg.tape.trans hW.tape, hg.output.trans hW.output, hz, fun b hb1 => far b (by have := h.low; omega) (fun e => by
      have := (h.own.lt b e).1
      omega)⟩
/-- A word of the list. -/
theorem Os.word {w0 w : World} {base hi m d k : Nat} {v : Value} {B : Option Addr} {q : LW} {x : List UInt8} (h : Os w0 w base hi v (.slice B m d) q) (hx : q.2[k]? = some x) :
    ∃ g, B = some ⟨g, 0, none⟩ ∧ w.cell? ⟨g, 0 + k, none⟩ = some (.string ⟨x.toArray⟩) ∧ g < hi := by
  rcases h.own.2 with ⟨e, e0⟩ | ⟨g, cap, cur, e, _⟩
  · have := (List.getElem?_eq_some_iff.1 hx).1
    omega
  · injection e with e1 e2 e3
    subst e1; subst e2
    have := h.own.cells (g := g) rfl k (.string ⟨x.toArray⟩) (by simp [hx])
    rw [add0] at this
    exact ⟨g, rfl, this, h.ult g rfl⟩
end Go.Proofs.Ytddppmbllcnkoaa.orb

/-
  Shears of a surface, one after the other: they come back; the least number of shears that give an isomorphic surface.
-/
namespace Go.Proofs.Ytddppmbllcnkoaa.orb
open Go.Proofs.Ytddppmbllcnkoaa.pm
set_option linter.unusedVariables false
set_option maxRecDepth 100000

/-- k shears. -/
def shN : Nat → Sur → Sur
  | 0, s => s
  | k + 1, s => shearS (shN k s)
end Go.Proofs.Ytddppmbllcnkoaa.orb

/-
  shearCycle and ShearPeriod of the program.
-/
namespace Go.Proofs.Ytddppmbllcnkoaa.orb
open Go.ChangeShapes Go.WideShapes Go.ChangeAt Go.RowKit
open Go.Proofs.Ytddppmbllcnkoaa.mem Go.Proofs.Ytddppmbllcnkoaa.ints Go.Proofs.Ytddppmbllcnkoaa.arr Go.Proofs.Ytddppmbllcnkoaa.pm Go.Proofs.Ytddppmbllcnkoaa.sf Go.Proofs.Ytddppmbllcnkoaa.gl Go.Proofs.Ytddppmbllcnkoaa.la
set_option linter.unusedVariables false
set_option maxRecDepth 100000
theorem rd_let (w : World) (z : Int) (g : Nat) (hg : w.heap.size = g) : Rd (w.alloc (.cells #[.int .i64 z] 66)) (g + 1) (some ⟨g, 0, none⟩) 1 (V [z]) := by
  subst hg
  have := Rd.of_cells (w := w.alloc (.cells #[.int .i64 z] 66)) (a := ⟨w.heap.size, 0, none⟩) (n := 1) (xs := V [z]) rfl (fun i hi => by
    obtain rfl : i = 0 := by omega
    exact (Arr.new w (V [z]) 66 rfl).cell rfl)
  simpa using this
theorem infoGl : (sqp.prog.info? 65).map (fun i => (i.zero, i.size, i.bytes)) = some (some (.agg #[.int .i64 0, .int .i64 0, .int .i64 0, .int .i64 0, .int .i64 0, .int .i64 0, .int .i64 0, .int .i64 0, .int .i64 0, .int .i64 0, .int .i64 0, .int .i64 0, .int .i64 0, .int .i64 0, .int .i64 0, .int .i64 0, .int .i64 0, .int .i64 0, .int .i64 0, .int .i64 0, .int .i64 0, .int .i64 0, .int .i64 0, .int .i64 0, .int .i64 0, .int .i64 0, .int .i64 0, .int .i64 0, .int .i64 0, .int .i64 0, .int .i64 0, .int .i64 0, .int .i64 0, .int .i64 0, .int .i64 0, .int .i64 0, .int .i64 0, .int .i64 0, .int .i64 0, .int .i64 0, .int .i64 0, .int .i64 0, .int .i64 0, .int .i64 0, .int .i64 0, .int .i64 0, .int .i64 0, .int .i64 0, .int .i64 0]), 49, 392) := by kernel_rfl
/-- The forms of the first k surfaces of the shears, cell by cell. -/
def fs (s : Sur) (n k : Nat) : List Value := (List.range k).flatMap fun j => V (gS (cn (shN j s)) n)
theorem eq_cn {n : Nat} {s t : Sur} (h1 : Sf n s.1 s.2) (h2 : Sf n t.1 t.2) (w : World) :
    (Op.equalIn 10000 65 (.agg (V (gS s n)).toArray) (.agg (V (gS t n)).toArray)).run sqp.prog w = .ok (decide (s = t)) w := by
  unfold gS
  rw [eq_gl (ext_len _) (ext_len _) (ext_len _) (ext_len _)]
  congr 1
  rw [decide_eq_decide]
  constructor
  · rintro ⟨q1, q2⟩
    have hn : n ≤ 24 := by have := h1.r.len; rw [h1.lr] at this; exact this
    exact Prod.ext (ext_inj (by rw [h1.lr, h2.lr]) (by rw [h1.lr]; exact hn) q1) (ext_inj (by rw [h1.lu, h2.lu]) (by rw [h1.lu]; exact hn) q2)
  · intro q; rw [q]; exact ⟨rfl, rfl⟩
theorem wpList_bs_gl {ops : Array Oper} {rest : List Oper} {o : Oper} {a : Act} {w : World} {Q : Exit → Act → World → Prop} (hgd : o.guard = none) (x : Operand) (ho : o.op = .buildSlice 84 1 #[(0, x)])
    (L : List Int) (hL : L.length = 49) (hx : a.eval x = .agg (V L).toArray)
    (h : wpList sqp.prog ops Q rest (a.put o.dst (.slice (some ⟨w.heap.size, 0, none⟩) 1 1)) (w.alloc (.cells (V L).toArray 65))) : wpList sqp.prog ops Q (o :: rest) a w := by
  obtain ⟨i, hi, hz, hs, hb⟩ := info_parts infoGl
  refine wpList_buildSlice hgd 84 65 1 _ ho (V L).toArray i _ sqp.underlying84 hi hz (by rw [hs]; decide) (by rw [hs]; decide) ?_ h
  rw [hs]
  have := Great.fill_whole (s := 49) (by decide) [.agg (V L).toArray] ((Array.range (1 * 49)).map ((Value.agg #[.int .i64 0, .int .i64 0, .int .i64 0, .int .i64 0, .int .i64 0, .int .i64 0, .int .i64 0, .int .i64 0, .int .i64 0, .int .i64 0, .int .i64 0, .int .i64 0, .int .i64 0, .int .i64 0, .int .i64 0, .int .i64 0, .int .i64 0, .int .i64 0, .int .i64 0, .int .i64 0, .int .i64 0, .int .i64 0, .int .i64 0, .int .i64 0, .int .i64 0, .int .i64 0, .int .i64 0, .int .i64 0, .int .i64 0, .int .i64 0, .int .i64 0, .int .i64 0, .int .i64 0, .int .i64 0, .int .i64 0, .int .i64 0, .int .i64 0, .int .i64 0, .int .i64 0, .int .i64 0, .int .i64 0, .int .i64 0, .int .i64 0, .int .i64 0, .int .i64 0, .int .i64 0, .int .i64 0, .int .i64 0, .int .i64 0]).cells[· % (Value.agg #[.int .i64 0, .int .i64 0, .int .i64 0, .int .i64 0, .int .i64 0, .int .i64 0, .int .i64 0, .int .i64 0, .int .i64 0, .int .i64 0, .int .i64 0, .int .i64 0, .int .i64 0, .int .i64 0, .int .i64 0, .int .i64 0, .int .i64 0, .int .i64 0, .int .i64 0, .int .i64 0, .int .i64 0, .int .i64 0, .int .i64 0, .int .i64 0, .int .i64 0, .int .i64 0, .int .i64 0, .int .i64 0, .int .i64 0, .int .i64 0, .int .i64 0, .int .i64 0, .int .i64 0, .int .i64 0, .int .i64 0, .int .i64 0, .int .i64 0, .int .i64 0, .int .i64 0, .int .i64 0, .int .i64 0, .int .i64 0, .int .i64 0, .int .i64 0, .int .i64 0, .int .i64 0, .int .i64 0, .int .i64 0, .int .i64 0]).cells.size]!)) (by simp [Value.cells, V_len, hL]) (by simp)
  simpa [hx, Value.cells] using this
theorem form_gS (s : Sur) (n : Nat) (w : World) (hs : Sf n s.1 s.2) :
    Calls sqp.prog 77 #[.agg (V (gS s n)).toArray] w fun e w' => e = .returned (.agg (V (gS (cn s) n)).toArray) ∧ Below w.heap.size w w' := form_any s.1 s.2 n w hs
def slen : Value → Nat
  | .slice _ n _ => n
  | _ => 0
end Go.Proofs.Ytddppmbllcnkoaa.orb

/-
  CanonOf, CountSymmetries and AreIsomorphic of the program.
-/
namespace Go.Proofs.Ytddppmbllcnkoaa.gl
open Go.ChangeShapes Go.WideShapes Go.ChangeAt Go.RowKit
open Go.Proofs.Ytddppmbllcnkoaa.mem Go.Proofs.Ytddppmbllcnkoaa.ints Go.Proofs.Ytddppmbllcnkoaa.arr Go.Proofs.Ytddppmbllcnkoaa.pm Go.Proofs.Ytddppmbllcnkoaa.permOk Go.Proofs.Ytddppmbllcnkoaa.permOf Go.Proofs.Ytddppmbllcnkoaa.inv Go.Proofs.Ytddppmbllcnkoaa.fns Go.Proofs.Ytddppmbllcnkoaa.sf
set_option linter.unusedVariables false
set_option maxRecDepth 100000

theorem can_len (r u : List Int) {n : Nat} (h : 0 < n) : (can r u n).1.length = n ∧ (can r u n).2.length = n := by
  obtain ⟨j, hj, e⟩ := can_is (R := r) (U := u) h
  rw [e]; exact Fm_len _ _ _ _
end Go.Proofs.Ytddppmbllcnkoaa.gl

/-
  AreIsomorphic of the program.
-/
namespace Go.Proofs.Ytddppmbllcnkoaa.gl
open Go.ChangeShapes Go.WideShapes Go.ChangeAt Go.RowKit
open Go.Proofs.Ytddppmbllcnkoaa.mem Go.Proofs.Ytddppmbllcnkoaa.ints Go.Proofs.Ytddppmbllcnkoaa.arr Go.Proofs.Ytddppmbllcnkoaa.pm Go.Proofs.Ytddppmbllcnkoaa.permOk Go.Proofs.Ytddppmbllcnkoaa.permOf Go.Proofs.Ytddppmbllcnkoaa.inv Go.Proofs.Ytddppmbllcnkoaa.fns Go.Proofs.Ytddppmbllcnkoaa.sf
set_option linter.unusedVariables false
set_option maxRecDepth 100000

set_option maxHeartbeats 1000000 in
theorem eq_gl2 {p q p' q' : List Int} (hp : p.length = 24) (hq : q.length = 24) (hp' : p'.length = 24) (hq' : q'.length = 24) (n n' : Nat) (w : World) :
    (Op.equalIn 10000 65 (.agg (V (gl p q n)).toArray) (.agg (V (gl p' q' n')).toArray)).run sqp.prog w = .ok (decide (p = p' ∧ q = q' ∧ n = n')) w := by
  have hf : (sqp.prog.fieldsOf 65).toList.map (fun f => (f.name, f.type, f.offset)) = [("right", 63, 0), ("up", 63, 24), ("count", 3, 48)] := by kernel_rfl
  rw [run_equalIn_struct w 9999 _ _ _ (by kernel_rfl) (by kernel_rfl)]
  generalize (sqp.prog.fieldsOf 65).toList = fs at hf
  have hl : fs.length = 3 := by have := congrArg List.length hf; simpa using this
  match fs, hl, hf with
  | [f0, f1, f2], _, hf =>
    simp only [List.map_cons, List.map_nil, List.cons.injEq, Prod.mk.injEq, and_true] at hf
    obtain ⟨⟨a1, a2, a3⟩, ⟨b1, b2, b3⟩, c1, c2, c3⟩ := hf
    have x1 : ∀ {r s : List Int} (n : Nat), r.length = 24 → s.length = 24 → (V (gl r s n)).toArray.extract 0 (0 + 24) = (V r).toArray := fun _ hr hs => V_ext (by simp [gl, hr])
    have x2 : ∀ {r s : List Int} (n : Nat), r.length = 24 → s.length = 24 → (V (gl r s n)).toArray.extract 24 (24 + 24) = (V s).toArray := fun _ hr hs => V_ext (by simp [gl, hr, hs])
    have x3 : ∀ {r s : List Int} (n : Nat), r.length = 24 → s.length = 24 → (V (gl r s n)).toArray[48]? = some (.int .i64 n) := fun _ hr hs => by
      simp only [gl, V, List.map_append, List.getElem?_toArray]
      rw [List.getElem?_append_right (by simp; omega)]
      simp [hr, hs]
    have e3 : (Op.equalIn 9999 3 (.int .i64 n) (.int .i64 n')).run sqp.prog w = .ok ((n : Int) == (n' : Int)) w := run_equalIn_int w 9998 _ .i64 .i64 _ _ sqp.underlying3
    have n1 : (("right" : String) ≠ "_") = True := by simp
    have n2 : (("up" : String) ≠ "_") = True := by simp
    have n3 : (("count" : String) ≠ "_") = True := by simp
    have e1' : (Op.equalIn 9999 63 (.agg (V p).toArray) (.agg (V p').toArray)).run sqp.prog w = .ok (decide (p = p')) w := eq_perm hp hp' 9997 w
    have e2' : (Op.equalIn 9999 63 (.agg (V q).toArray) (.agg (V q').toArray)).run sqp.prog w = .ok (decide (q = q')) w := eq_perm hq hq' 9997 w
    simp only [Op.eqFields, n1, n2, n3, if_true, a1, a2, a3, b1, b2, b3, c1, c2, c3, Sem.run_bind, part_perm, x1 n hp hq, x1 n' hp' hq', Result.andThen_ok, e1']
    by_cases h1 : p = p'
    · simp only [decide_eq_true h1, Bool.not_true, Bool.false_eq_true, if_false, Sem.run_bind, part_perm, x2 n hp hq, x2 n' hp' hq', Result.andThen_ok, e2']
      by_cases h2 : q = q'
      · simp only [decide_eq_true h2, Bool.not_true, Bool.false_eq_true, if_false, Sem.run_bind, part_int (x3 n hp hq), part_int (x3 n' hp' hq'), Result.andThen_ok, e3]
        by_cases h3 : n = n'
        · have : ((n : Int) == (n' : Int)) = true := by simp [h3]
          simp only [this, Bool.not_true, Bool.false_eq_true, if_false, Sem.run_pure]
          rw [decide_eq_true (show p = p' ∧ q = q' ∧ n = n' from ⟨h1, h2, h3⟩)]
        · have : ((n : Int) == (n' : Int)) = false := by simp; omega
          simp only [this, Bool.not_false, if_true, Sem.run_pure]
          rw [decide_eq_false (fun h => h3 h.2.2)]
      · simp only [decide_eq_false h2, Bool.not_false, if_true, Sem.run_pure]
        rw [decide_eq_false (fun h => h2 h.2.1)]
    · simp only [decide_eq_false h1, Bool.not_false, if_true, Sem.run_pure]
      rw [decide_eq_false (fun h => h1 h.1)]
theorem eq_cn {r u r' u' : List Int} {n n' : Nat} (h : 0 < n) (h' : 0 < n') (l : n ≤ 24) (l' : n' ≤ 24) (w : World) :
    (Op.equalIn 10000 65 (.agg (V (cn r u n)).toArray) (.agg (V (cn r' u' n')).toArray)).run sqp.prog w = .ok (sameF (can r u n).1 (can r u n).2 (can r' u' n').1 (can r' u' n').2) w := by
  unfold cn
  rw [eq_gl2 (ext_len _) (ext_len _) (ext_len _) (ext_len _)]
  obtain ⟨a1, a2⟩ := can_len r u h
  obtain ⟨b1, b2⟩ := can_len r' u' h'
  congr 1
  unfold sameF eqi
  rw [← Bool.decide_and, decide_eq_decide]
  constructor
  · rintro ⟨q1, q2, rfl⟩
    exact ⟨ext_inj (by rw [a1, b1]) (by omega) q1, ext_inj (by rw [a2, b2]) (by omega) q2⟩
  · rintro ⟨q1, q2⟩
    exact ⟨by rw [q1], by rw [q2], by rw [← a1, ← b1, q1]⟩

end Go.Proofs.Ytddppmbllcnkoaa.gl

/-
  Channels in one goroutine, for the walk 'Code.wp': a region that communicates is walked operation by operation ('Rw': what is left of a region, said over the machine's steps); around it the walk goes on as ever.
-/
namespace Go.Proofs.Ytddppmbllcnkoaa.ch
open Go.Conc Go.RowKit Go.Proofs.Ytddppmbllcnkoaa.mem
set_option linter.unusedVariables false
set_option maxRecDepth 100000

/-- What is left of a region: from there it is left by a way and in a state of which Q holds. -/
def Rw (P : Program) (ops : Array Oper) (l : List Nat) (Q : Exit → Act → World → Prop) (a : Act) (w : World) : Prop :=
  ∀ (b : Frame) (k : List Item) (cs : List Frame), ∃ e a' w', Q e a' w' ∧ Arrives P (lone (b.at a (.inRegion ops l :: k)) cs w) b k cs e a' w'
section
variable {P : Program} {ops : Array Oper} {Q : Exit → Act → World → Prop} {a : Act} {w : World} {i : Nat} {rest : List Nat} {o : Oper}
def isComm : Op → Bool
  | .send .. => true
  | .recv .. => true
  | .call { callee := .builtin .close, .. } => true
  | _ => false
/-- The door: only a region that communicates is walked so. -/
theorem region {id : Nat} (hc : ops.toList.any (fun o => isComm o.op) = true) (h : Rw P ops (List.range ops.size) Q a w) : (Code.region id ops false).wp P Q a w :=
  fun b k cs => let ⟨e, a', w', q, r⟩ := h b k cs; ⟨e, a', w', q, .of_steps (.one step_region) r⟩
theorem Rw.nil (h : Q .normal a w) : Rw P ops [] Q a w := fun b k cs => ⟨.normal, a, w, h, .one step_region_end⟩
/-- An operation as in the ordinary walk: a value, nothing, or a call. -/
theorem Rw.op (ho : ops[i]? = some o) (hw : Region.wanted o (yielded ops a.tmps) = true)
    (h : ∀ K : Act → World → Prop, (∀ a w, Rw P ops rest Q a w → K a w) → o.wp P a w K (fun _ _ _ => False)) : Rw P ops (i :: rest) Q a w := by
  intro b k cs
  have h := h _ (fun _ _ h => h)
  simp only [Oper.wp, Oper.upon] at h
  have hg := stepG_op (P := P) (b := b) (k := k) (cs := cs) (w := w) (rest := rest) ho hw
  have hfin : ∀ v, (b.at a (.inRegion ops (i :: rest) :: k)).finish v = b.at (a.put o.dst v) (.inRegion ops rest :: k) := by
    intro v; rw [Frame.finish_at, ho]; rfl
  split at h
  · rename_i v w' hr
    obtain ⟨e, a', w'', q, r⟩ := h b k cs
    refine ⟨e, a', w'', q, .of_steps (.one (step_lone_go ?_)) r⟩
    rw [hg, ← hfin]; simp [stepG.apply, hr]
  · rename_i w' hr
    obtain ⟨e, a', w'', q, r⟩ := h b k cs
    refine ⟨e, a', w'', q, .of_steps (.one (step_lone_go ?_)) r⟩
    rw [hg, ← hfin]; simp [stepG.apply, hr]
  · rename_i d w' hr
    obtain ⟨e, a', w'', q, r⟩ := h b k cs
    refine ⟨e, a', w'', q, .of_steps (.one (step_lone_go ?_)) r⟩
    have := Frame.finish_at b { a with defers := d :: a.defers } ops i rest k undef
    rw [ho] at this
    rw [hg]; simp only [stepG.apply, Sem.runT_eq, hr, GStep.bare_after]
    exact congrArg (fun fr => GStep.go { frame := fr, callers := cs, status := .running, dying := none } w') this
  · rename_i f args w' hr
    obtain ⟨e, w'', fr, hR, hs, _, hl⟩ := h (b.at a (.inRegion ops (i :: rest) :: k) :: cs)
    cases e with
    | returned v =>
      obtain ⟨e, a', w₃, q, r⟩ := hR b k cs
      refine ⟨e, a', w₃, q, .of_steps (.head (step_lone_go (by rw [hg]; simp [stepG.apply, hr, Frame.at])) (hs.trans (.one ?_))) r⟩
      rw [← hfin]; exact step_leave_returned hl
    | panicked chain => exact hR.elim
    | outgrown => obtain ⟨_, _, q⟩ := hR; exact q.elim
  · rename_i row args w' hr
    obtain ⟨v, w'', hR, hs⟩ := h (b.at a (.inRegion ops (i :: rest) :: k)) cs
    obtain ⟨e, a', w₃, q, r⟩ := hR b k cs
    have he : step P (lone (b.at a (.inRegion ops (i :: rest) :: k)) cs w) = .next (lone (Frame.ofRow P row args .normal) (b.at a (.inRegion ops (i :: rest) :: k) :: cs) w') :=
      step_lone_go (by rw [hg]; simp [stepG.apply, hr, Frame.at])
    refine ⟨e, a', w₃, q, .of_steps (.head he ?_) r⟩
    rw [← hfin]; exact hs
  · exact h.elim
  · exact h.elim
theorem comm {cases : Array CommCase} {blocking : Bool} {shape : CommShape} {w' : World} (ho : ops[i]? = some o) (hw : Region.wanted o (yielded ops a.tmps) = true)
    (hr : (execOp a.eval o).run P w = .ok (.comm cases blocking shape) w') (b : Frame) (k : List Item) (cs : List Frame) :
    ∃ es, stepG P true (G (b.at a (.inRegion ops (i :: rest) :: k)) cs) w = .comm (G (b.at a (.inRegion ops (i :: rest) :: k)) cs) cases blocking shape w' es := by
  rw [stepG_oper ho hw]
  simp only [stepG.apply, Sem.runT_eq, hr]
  split <;> exact ⟨_, rfl⟩
variable {c cap s r : Nat} {buf : Array Value} {z z' v : Value} {tm closed : Bool} {w₁ : World}
/-- A send into a buffer with room. -/
theorem Rw.send (ho : ops[i]? = some o) (hw : Region.wanted o (yielded ops a.tmps) = true) (hr : (execOp a.eval o).run P w = .ok (.comm #[scase c v z'] true .send) w₁)
    (hc : w₁.heap[c]? = some (.chan cap buf false s r tm)) (hroom : buf.size < cap) (h : Rw P ops rest Q (a.put o.dst undef) (w₁.setChan c cap (buf.push v) false (s + 1) r tm)) :
    Rw P ops (i :: rest) Q a w := by
  intro b k cs
  obtain ⟨es, hg⟩ := comm (rest := rest) ho hw hr b k cs
  obtain ⟨e, a', w', q, h⟩ := h b k cs
  refine ⟨e, a', w', q, .of_steps (.one ?_) h⟩
  have hfin : (b.at a (.inRegion ops (i :: rest) :: k)).finish undef = b.at (a.put o.dst undef) (.inRegion ops rest :: k) := by rw [Frame.finish_at, ho]; rfl
  have := step_lone_send_room hg hc hroom
  rw [hfin] at this
  exact this
/-- A receive from a buffer that holds something. -/
theorem Rw.recv (ok : Bool) (ho : ops[i]? = some o) (hw : Region.wanted o (yielded ops a.tmps) = true) (hr : (execOp a.eval o).run P w = .ok (.comm #[rcase c z] true (.recv ok)) w₁)
    (hc : w₁.heap[c]? = some (.chan cap buf closed s r tm)) (hsome : 0 < buf.size) (h : Rw P ops rest Q (a.put o.dst (got ok (buf.getD 0 undef) true)) (w₁.setChan c cap (buf.extract 1 buf.size) closed s (r + 1) tm)) :
    Rw P ops (i :: rest) Q a w := by
  intro b k cs
  obtain ⟨es, hg⟩ := comm (rest := rest) ho hw hr b k cs
  obtain ⟨e, a', w', q, h⟩ := h b k cs
  refine ⟨e, a', w', q, .of_steps (.one ?_) h⟩
  have hfin : ∀ v, (b.at a (.inRegion ops (i :: rest) :: k)).finish v = b.at (a.put o.dst v) (.inRegion ops rest :: k) := by intro v; rw [Frame.finish_at, ho]; rfl
  have := step_lone_recv_buf ok hg hc hsome
  rw [hfin] at this
  exact this
/-- A receive from a closed channel whose buffer is empty. -/
theorem Rw.shut (ok : Bool) (ho : ops[i]? = some o) (hw : Region.wanted o (yielded ops a.tmps) = true) (hr : (execOp a.eval o).run P w = .ok (.comm #[rcase c z] true (.recv ok)) w₁)
    (hc : w₁.heap[c]? = some (.chan cap #[] true s r tm)) (h : Rw P ops rest Q (a.put o.dst (got ok z false)) w₁) :
    Rw P ops (i :: rest) Q a w := by
  intro b k cs
  obtain ⟨es, hg⟩ := comm (rest := rest) ho hw hr b k cs
  obtain ⟨e, a', w', q, h⟩ := h b k cs
  refine ⟨e, a', w', q, .of_steps (.one ?_) h⟩
  have hfin : ∀ v, (b.at a (.inRegion ops (i :: rest) :: k)).finish v = b.at (a.put o.dst v) (.inRegion ops rest :: k) := by intro v; rw [Frame.finish_at, ho]; rfl
  have := step_lone_recv_shut ok hg hc
  rw [hfin] at this
  exact this
end
/-- 'make(chan T, n)': ht: the channel's type, hB: the elements' bytes. -/
theorem mk {P : Program} {t e : TypeId} {dir : ChanDir} (ht : P.underlying t = some (.chan dir e)) {B : Nat} (hB : (P.info? e).map (·.bytes) = some B) (n : Nat) (h63 : (n : Int) ≤ 9223372036854775807) (hb : (B : Int) * n ≤ 281474976710544)
    (m : Int) (hm : m = n) (w : World) : (Instr.makeChan t (.int .i64 m)).run P w = .ok (.chan (some w.heap.size)) (w.alloc (.chan n #[] false 0 0 false)) := by
  obtain ⟨i, hi, e⟩ := Option.map_eq_some_iff.1 hB
  rw [hm]
  exact run_makeChan ht hi .i64 n h63 (by rw [e]; exact hb)
/-- The channel in block c: its room, what lies in it (the eldest first), whether it is closed. -/
def Chn (w : World) (c cap : Nat) (vs : List Value) (closed : Bool) : Prop := ∃ s r, w.heap[c]? = some (.chan cap vs.toArray closed s r false)
theorem Chn.lt {w : World} {c cap : Nat} {vs : List Value} {closed : Bool} (h : Chn w c cap vs closed) : c < w.heap.size := by
  obtain ⟨s, r, h⟩ := h; exact (Array.getElem?_eq_some_iff.1 h).1
theorem Chn.keep {w w' : World} {c cap B : Nat} {vs : List Value} {closed : Bool} (h : Chn w c cap vs closed) (hb : Below B w w') (hB : c < B) : Chn w' c cap vs closed := by
  obtain ⟨s, r, h⟩ := h; exact ⟨s, r, (hb.block c hB).trans h⟩
theorem Chn.new (w : World) (cap : Nat) : Chn (w.alloc (.chan cap #[] false 0 0 false)) w.heap.size cap [] false := ⟨0, 0, heap_alloc_new _ _⟩
theorem out_setChan (w : World) (c cap : Nat) (buf : Array Value) (cl : Bool) (s r : Nat) (tm : Bool) : Out c (c + 1) w (w.setChan c cap buf cl s r tm) :=
  ⟨rfl, rfl, rfl, by simp [World.setChan], fun k hk h => by simp only [World.setChan]; rw [Array.getElem?_setIfInBounds_ne (by omega)]⟩
section
variable {P : Program} {ops : Array Oper} {Q : Exit → Act → World → Prop} {a : Act} {w : World} {i : Nat} {rest : List Nat} {o : Oper} {c cap : Nat} {vs : List Value} {z z' v : Value} {closed : Bool} {w₁ : World}
theorem Rw.sendL (ho : ops[i]? = some o) (hw : Region.wanted o (yielded ops a.tmps) = true) (hr : (execOp a.eval o).run P w = .ok (.comm #[scase c v z'] true .send) w₁)
    (hc : Chn w₁ c cap vs false) (hroom : vs.length < cap) (h : ∀ w', Chn w' c cap (vs ++ [v]) false → Out c (c + 1) w₁ w' → Rw P ops rest Q (a.put o.dst undef) w') : Rw P ops (i :: rest) Q a w := by
  have l := hc.lt
  obtain ⟨s, r, hc⟩ := hc
  exact Rw.send ho hw hr hc (by simpa using hroom) (h _ ⟨s + 1, r, by rw [heap_setChan _ _ _ _ _ _ _ _ l]; simp⟩ (out_setChan _ _ _ _ _ _ _ _))
theorem Rw.recvL (ok : Bool) (ho : ops[i]? = some o) (hw : Region.wanted o (yielded ops a.tmps) = true) (hr : (execOp a.eval o).run P w = .ok (.comm #[rcase c z] true (.recv ok)) w₁)
    (hc : Chn w₁ c cap (v :: vs) closed) (h : ∀ w', Chn w' c cap vs closed → Out c (c + 1) w₁ w' → Rw P ops rest Q (a.put o.dst (got ok v true)) w') : Rw P ops (i :: rest) Q a w := by
  have l := hc.lt
  obtain ⟨s, r, hc⟩ := hc
  refine Rw.recv ok ho hw hr hc (by simp) ?_
  have e : (v :: vs).toArray.getD 0 undef = v := by simp
  rw [e]
  exact h _ ⟨s, r + 1, by rw [heap_setChan _ _ _ _ _ _ _ _ l]; simp⟩ (out_setChan _ _ _ _ _ _ _ _)
theorem Rw.shutL (ok : Bool) (ho : ops[i]? = some o) (hw : Region.wanted o (yielded ops a.tmps) = true) (hr : (execOp a.eval o).run P w = .ok (.comm #[rcase c z] true (.recv ok)) w₁)
    (hc : Chn w₁ c cap [] true) (h : Rw P ops rest Q (a.put o.dst (got ok z false)) w₁) : Rw P ops (i :: rest) Q a w := by
  obtain ⟨s, r, hc⟩ := hc
  exact Rw.shut ok ho hw hr hc h
theorem Rw.closeL {ats : Array TypeId} {x : Tmp} (ho : ops[i]? = some o) (hg : o.guard = none) (hop : o.op = .call { callee := .builtin .close, args := #[.tmp x], argTypes := ats }) (hx : a.eval (.tmp x) = .chan (some c))
    (hc : Chn w c cap vs false) (h : ∀ w', Chn w' c cap vs true → Out c (c + 1) w w' → Rw P ops rest Q (a.put o.dst (.tuple #[])) w') : Rw P ops (i :: rest) Q a w := by
  have l := hc.lt
  obtain ⟨s, r, hc⟩ := hc
  have hcl := fun ats ty => run_close_open (P := P) (w := w) ats ty hc
  refine Rw.op ho (by simp [Region.wanted, hg]) (fun K hK => ?_)
  have h2 := hK _ _ (h (w.setChan c cap vs.toArray true s r false) ⟨s, r, heap_setChan _ _ _ _ _ _ _ _ l⟩ (out_setChan _ _ _ _ _ _ _ _))
  simp [go_sem] at hx
  simp only [Oper.wp, execOp, hop]
  simp [go_sem, hx, hcl]
  exact h2
end
attribute [irreducible] Rw
/-- The walk stops here: a region that communicates is next. (An arm: 'refine ch.stop rfl ?_'.) -/
structure Stop (p : Prop) : Prop where
  out : p
theorem stop {P : Program} {id : Nat} {ops : Array Oper} {Q : Exit → Act → World → Prop} {a : Act} {w : World} (hc : ops.toList.any (fun o => isComm o.op) = true) (h : Stop (Rw P ops (List.range ops.size) Q a w)) : (Code.region id ops false).wp P Q a w := region hc h.out
/-- An operation that the ordinary walk's own simp set reckons; the rest of the region. -/
theorem Rw.plain {P : Program} {ops : Array Oper} {Q : Exit → Act → World → Prop} {a : Act} {w w' : World} {i : Nat} {rest : List Nat} {o : Oper} {v : Value} (ho : ops[i]? = some o) (hw : Region.wanted o (yielded ops a.tmps) = true) (hr : (execOp a.eval o).run P w = .ok (.value v) w')
    (h : Rw P ops rest Q (a.put o.dst v) w') : Rw P ops (i :: rest) Q a w := Rw.op ho hw fun K hK => by simp only [Oper.wp, Oper.upon, hr]; exact hK _ _ h
end Go.Proofs.Ytddppmbllcnkoaa.ch
