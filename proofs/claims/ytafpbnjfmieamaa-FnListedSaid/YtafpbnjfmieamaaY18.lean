import Derived.Test.YtafpbnjfmieamaaY16
import Derived.Test.YtafpbnjfmieamaaY17
import Derived.Test.YtafpbnjfmieamaaY08
import Derived.Test.YtafpbnjfmieamaaY09
import Derived.Test.YtafpbnjfmieamaaY13
import Derived.Test.YtafpbnjfmieamaaY02
/-
  The model's list of all surfaces with few squares, while it is made.
-/
namespace Go.Proofs.Ytafpbnjfmieamaa.lst
open Go.ChangeShapes Go.WideShapes Go.ChangeAt Go.RowKit
open Go.Proofs.Ytafpbnjfmieamaa.mem Go.Proofs.Ytafpbnjfmieamaa.ints Go.Proofs.Ytafpbnjfmieamaa.arr Go.Proofs.Ytafpbnjfmieamaa.pm Go.Proofs.Ytafpbnjfmieamaa.sf Go.Proofs.Ytafpbnjfmieamaa.orb
set_option linter.unusedVariables false
set_option maxRecDepth 100000

theorem insL_mem : ∀ (L : List Sur) (s : Sur) (d : Bool) (y : Sur), y ∈ insL L s d → y ∈ L ∨ y = s
  | [], s, d, y, h => by
    cases d
    · exact .inr (by simpa [insL] using h)
    · simp [insL] at h
  | x :: t, s, d, y, h => by
    rw [insL] at h
    split at h
    · rcases List.mem_cons.1 h with q | q
      · exact .inr q
      rcases List.mem_cons.1 q with q | q
      · exact .inl (q ▸ List.mem_cons_self ..)
      · rcases insL_mem t s _ y q with q | q
        · exact .inl (List.mem_cons_of_mem _ q)
        · exact .inr q
    · rcases List.mem_cons.1 h with q | q
      · exact .inl (q ▸ List.mem_cons_self ..)
      · rcases insL_mem t s _ y q with q | q
        · exact .inl (List.mem_cons_of_mem _ q)
        · exact .inr q
theorem insL_len : ∀ (L : List Sur) (s : Sur) (d : Bool), (insL L s d).length ≤ L.length + (if d then 0 else 1)
  | [], s, d => by cases d <;> simp [insL]
  | x :: t, s, d => by
    rw [insL]
    split
    · rename_i h
      have hd : d = false := by cases d <;> simp_all
      subst hd
      have := insL_len t s true
      simp at this ⊢
      omega
    · have := insL_len t s (d || decide (x = s))
      cases d
      · simp at this ⊢
        split at this <;> omega
      · simp at this ⊢
        omega
theorem putP_len (n : Nat) (acc : List Sur) (r u : List Int) : (putP n acc r u).length ≤ acc.length + 1 := by
  unfold putP
  split
  · have := insL_len acc (can r u n) false
    simpa using this
  · omega
theorem putP_sf {n : Nat} {acc : List Sur} {r u : List Int} (hr : r.length = n) (h : ∀ y ∈ acc, Sf n y.1 y.2) : ∀ y ∈ putP n acc r u, Sf n y.1 y.2 := by
  unfold putP
  split
  · rename_i ht
    have s := transB_iff.1 ht
    rw [hr] at s
    obtain ⟨_, _, q⟩ := s.can_iso
    intro y hy
    rcases insL_mem _ _ _ _ hy with e | rfl
    · exact h y e
    · exact q
  · exact h
theorem rowP_take {n a : Nat} {acc : List Sur} {r u : List Int} {U : List (List Int)} (h : U[a]? = some u) : rowP n acc r (U.take (a + 1)) = putP n (rowP n acc r (U.take a)) r u := by
  rw [List.take_add_one, h]
  simp [rowP]
theorem allP_take {n a : Nat} {acc : List Sur} {r : List Int} {R U : List (List Int)} (h : R[a]? = some r) : allP n acc (R.take (a + 1)) U = rowP n (allP n acc (R.take a) U) r U := by
  rw [List.take_add_one, h]
  simp [allP]
/-- The list so far: its items lie from base on. -/
structure Sx (w wr : World) (vo : Value) (n : Nat) (acc : List Sur) : Prop where
  ex : ∃ Z : List Item, Z.map sOf = acc ∧ wr.ownsRow w.heap.size 33 2 vo Z.length (hsOf Z) ∧ Pk wr w.heap.size wr.heap.size (fun b => vo.ownBlock = some b) Z
  sf : ∀ y ∈ acc, Sf n y.1 y.2
  bel : Below w.heap.size w wr
theorem Sx.keep {w wr w' : World} {vo : Value} {n : Nat} {acc : List Sur} (h : Sx w wr vo n acc) (hb : Below wr.heap.size wr w') : Sx w w' vo n acc := by
  obtain ⟨Z, e, o, p⟩ := h.ex
  exact ⟨⟨Z, e, own_block_keep o (fun b q => hb.block b (o.lt b q).2), (p.keep hb.size (fun b _ q _ => hb.block b q)).to (Nat.le_refl _) hb.size (Nat.le_refl _) (fun _ _ _ q => q)⟩, h.sf, h.bel.trans (hb.mono h.bel.size)⟩
theorem Sx.form {w wr : World} {vo : Value} {n : Nat} {acc : List Sur} (h : Sx w wr vo n acc) : ∃ A c, vo = .slice A acc.length c := by
  obtain ⟨Z, e, o, p⟩ := h.ex
  obtain ⟨A, c, q⟩ := mem.own_form o
  exact ⟨A, c, by rw [q, ← e, List.length_map]⟩
theorem Sx.lo {w wr : World} {vo : Value} {n : Nat} {acc : List Sur} (h : Sx w wr vo n acc) : Lo wr w.heap.size wr.heap.size vo acc := by
  obtain ⟨Z, e, o, p⟩ := h.ex
  subst e
  exact ⟨hsOf Z, blk0 Z, by rw [List.length_map]; exact o, p.ls, fun b q => (o.lt b q).2⟩
theorem Svl.formN {w : World} {lo hi N : Nat} {v : Value} {r u : List Int} (h : Svl w lo hi v r u) (e1 : r.length = N) (e2 : u.length = N) : ∃ P c Q d, v = .agg #[.slice P N c, .slice Q N d] := by
  obtain ⟨P, n, c, Q, m, d, l1, h1, l2, h2, e, a, b, _⟩ := h
  have q1 : r.length = n := by simpa [V] using a.1
  have q2 : u.length = m := by simpa [V] using b.1
  subst e1
  subst q1
  have q3 : m = r.length := by omega
  subst q3
  exact ⟨P, c, Q, d, e⟩
theorem Sx.base {w0 w wr : World} {vo : Value} {n : Nat} {acc : List Sur} (h : Sx w wr vo n acc) (hb : Below w0.heap.size w0 w) : Sx w0 wr vo n acc := by
  obtain ⟨Z, e, o, p⟩ := h.ex
  have s0 := hb.size
  refine ⟨⟨Z, e, ⟨o.1, o.2.imp id (fun ⟨g, cap, cur, q1, q2, q3⟩ => ⟨g, cap, cur, q1, Nat.le_trans s0 q2, q3⟩)⟩, p.to s0 (Nat.le_refl _) (Nat.le_refl _) (fun _ _ _ q => q)⟩, h.sf, hb.trans (h.bel.mono s0)⟩
/-- A fresh form beside the list. -/
theorem Sx.join {w wr w2 w3 : World} {vo : Value} {n c d : Nat} {acc : List Sur} {P Q : Option Addr} {s : Sur} (h : Sx w wr vo n acc) (b2 : Below wr.heap.size wr w2) (b3 : Below w2.heap.size w2 w3)
    (hx : Svl w3 w2.heap.size w3.heap.size (.agg #[.slice P n c, .slice Q n d]) s.1 s.2) (hn : 0 < n) :
    ∃ (Z : List Item) (zb : Nat × Nat), Z.map sOf = acc ∧ Z.length = acc.length ∧ w3.ownsRow w.heap.size 33 2 vo acc.length (hsOf Z) ∧ Pk w3 w.heap.size w3.heap.size (fun b => vo.ownBlock = some b) ((zb, (.slice P n c, .slice Q n d), s) :: Z) ∧ ∀ y ∈ Z, Sf n (sOf y).1 (sOf y).2 := by
  obtain ⟨Z, e, o, p⟩ := h.ex
  have s2 := b2.size; have s3 := b3.size; have s0 := h.bel.size
  have b13 : Below wr.heap.size wr w3 := b2.trans (b3.mono s2)
  have p3 : Pk w3 w.heap.size w2.heap.size (fun b => vo.ownBlock = some b) Z := (p.keep (by omega) (fun b _ q _ => b13.block b q)).to (Nat.le_refl _) s2 s3 (fun _ _ _ q => q)
  obtain ⟨zb, pz⟩ := p3.cons (lo := w.heap.size) (hi' := w3.heap.size) hx hn hn (by omega) s3 (Nat.le_refl _) (fun b q _ e => by have := (o.lt b e).2; omega)
  have el : Z.length = acc.length := by rw [← e, List.length_map]
  refine ⟨Z, zb, e, el, ?_, pz, fun y hy => h.sf _ (by rw [← e]; exact List.mem_map_of_mem hy)⟩
  rw [← el]
  exact own_block_keep o (fun b q => b13.block b (o.lt b q).2)
/-- It is put at its place: what l10Insert gives. -/
theorem Sx.put {w wr w1 w2 : World} {vo v : Value} {n : Nat} {acc : List Sur} {hd : Value × Value} {r u : List Int} (h : Sx w wr vo n acc) (hb : Below wr.heap.size wr w1)
    (ht : transB r u = true) (hr : r.length = n) {Z : List Item} (hZ : Z.map sOf = acc) {zb : Nat × Nat} (hp : Pk w1 w.heap.size w1.heap.size (fun b => vo.ownBlock = some b) ((zb, hd, can r u n) :: Z))
    (io : Io w1 w2 v (insZ (zb, hd, can r u n) Z)) : Sx w w2 v n (putP n acc r u) := by
  have e1 : putP n acc r u = insL acc (can r u n) false := by unfold putP; rw [if_pos ht]
  have ho : w.heap.size ≤ w1.heap.size := Nat.le_trans h.bel.size hb.size
  have b2 : Below w.heap.size w w2 := (h.bel.trans (hb.mono h.bel.size)).trans (io.bel.mono ho)
  refine ⟨⟨insZ (zb, hd, can r u n) Z, by rw [insZ_map, e1, hZ]; rfl, ?_, ?_⟩, putP_sf hr h.sf, b2⟩
  · have := io.own
    refine ⟨this.1, ?_⟩
    rcases this.2 with q | ⟨g, cap, cur, q1, q2, q3⟩
    · exact .inl q
    · exact .inr ⟨g, cap, cur, q1, Nat.le_trans ho q2, q3⟩
  · have p1 := (hp.keep io.bel.size (fun b _ q _ => io.bel.block b q)).ins
    exact p1.to (Nat.le_refl _) io.bel.size (Nat.le_refl _) (fun b _ q _ e => by have := (io.own.lt b e).1; omega)
theorem Sx.start (w : World) (n : Nat) : Sx w (w.alloc (.cells #[] 33)) (.slice (some ⟨w.heap.size, 0, none⟩) 0 0) n [] := by
  refine ⟨⟨[], rfl, ⟨rfl, .inr ⟨w.heap.size, 0, #[], rfl, Nat.le_refl _, heap_alloc_last w _, Nat.le_refl _, by unfold maxLen; omega, rfl, rfl⟩⟩, Pk.nil _ _ _ _ (Nat.le_refl _)⟩, fun y hy => by simp at hy, (Below.refl _ _).alloc (Nat.le_refl _) _⟩
/-- Rows to be read, by their places. -/
theorem Rl.at_ {w : World} {B : Nat} {A : Option Addr} {L : List (List Int)} (h : Rl w B A L) (hl : 0 < L.length) :
    ∃ G off, A = some ⟨G, off, none⟩ ∧ G < B ∧ ∀ (a : Nat) (p : List Int), L[a]? = some p → ∃ g o c, w.cell? ⟨G, off + a, none⟩ = some (.slice (some ⟨g, o, none⟩) p.length c) ∧ p.length ≤ c ∧ Rd w B (some ⟨g, o, none⟩) p.length (V p) := by
  obtain ⟨G, off, g, o, c, e, hG, _⟩ := h.2 0 _ (List.getElem?_eq_getElem hl)
  refine ⟨G, off, e, hG, fun a p hp => ?_⟩
  obtain ⟨G', off', g', o', c', e', _, h1, h2, h3⟩ := h.2 a p hp
  rw [e] at e'
  injection e' with e'
  injection e' with q1 q2
  subst q1; subst q2
  exact ⟨g', o', c', h1, h2, h3⟩
/-- What both programs' SurfacesWith give. -/
def SWPost (n : Int) (L : List Sur) (w : World) (e : Ending) (w' : World) : Prop := ∃ v, e = .returned v ∧ Sx w w' v n.toNat L
theorem Sx.nil {w w' : World} (n : Nat) (hb : Below w.heap.size w w') : Sx w w' (.slice none 0 0) n [] :=
  ⟨⟨[], rfl, ⟨rfl, .inl ⟨rfl, rfl⟩⟩, Pk.nil _ _ _ _ (Nat.le_refl _)⟩, fun y hy => by simp at hy, hb⟩
theorem swF_no {n : Int} (h : ¬ (1 ≤ n ∧ n ≤ 4)) : swF n = [] := if_neg h
theorem swF_yes {n : Nat} (h1 : 1 ≤ n) (h2 : n ≤ 4) : swF (n : Int) = allP n [] (prmS n n) (prmS n n) := by
  unfold swF swL
  rw [if_pos (by omega)]
  rfl
theorem sx_post {w wr : World} {vo : Value} {n : Nat} {acc L : List Sur} (h : Sx w wr vo n acc) (e : acc = L) : SWPost (n : Int) L w (.returned vo) wr := by
  subst e
  exact ⟨vo, rfl, h⟩
theorem sw_none {n : Int} {L : List Sur} {w w' : World} (h : L = []) (hb : Below w.heap.size w w') : SWPost n L w (.returned (.slice none 0 0)) w' := by
  subst h
  exact ⟨_, rfl, Sx.nil _ hb⟩
/-- A fresh surface behind the others: an append. -/
theorem Sx.push {w wr w1 w6 : World} {vo : Value} {n c d g cap : Nat} {acc : List Sur} {P Q : Option Addr} {s : Sur} {Z : List Item} {zb : Nat × Nat} (h : Sx w wr vo n acc) (hb : Below wr.heap.size wr w1) (hs : Sf n s.1 s.2) (hZ : Z.map sOf = acc) (hl : Z.length = acc.length)
    (hp : Pk w1 w.heap.size w1.heap.size (fun b => vo.ownBlock = some b) ((zb, (.slice P n c, .slice Q n d), s) :: Z))
    (ho : w6.ownsRow w.heap.size 33 2 (.slice (some ⟨g, 0, none⟩) (acc.length + 1) cap) (acc.length + 1) (hsOf Z ++ [.slice P n c, .slice Q n d])) (hg : (w1.alloc (.cells #[.slice P n c, .slice Q n d] 33)).grownBy w6 vo.ownBlock)
    (hv : ∀ b, vo.ownBlock = some b → b < wr.heap.size) (hbg : vo.ownBlock = some g ∨ g = w1.heap.size + 1) : Sx w w6 (.slice (some ⟨g, 0, none⟩) (acc.length + 1) cap) n (acc ++ [s]) := by
  have s0 := h.bel.size; have s1 := hb.size
  have bA : Below w1.heap.size w1 (w1.alloc (.cells #[.slice P n c, .slice Q n d] 33)) := (Below.refl _ _).alloc (Nat.le_refl _) _
  have sA := bA.size; have s6 := hg.size
  have hk : ∀ b, w.heap.size ≤ b → b < w1.heap.size → ¬ vo.ownBlock = some b → w6.heap[b]? = w1.heap[b]? := fun b _ q e => (hg.block b (by omega) (fun x => e x.symm)).trans (bA.block b q)
  have p6 := (hp.keep (by omega) hk).perm (show ((zb, (Value.slice P n c, Value.slice Q n d), s) :: Z).Perm (Z ++ [(zb, (Value.slice P n c, Value.slice Q n d), s)]) from List.perm_append_comm (l₁ := [(zb, (Value.slice P n c, Value.slice Q n d), s)]) (l₂ := Z))
  refine ⟨⟨Z ++ [(zb, (.slice P n c, .slice Q n d), s)], by rw [List.map_append, hZ]; rfl, ?_, ?_⟩, fun y hy => ?_, ?_⟩
  · rw [hs_app, List.length_append, List.length_singleton, hl]
    exact ho
  · refine p6.to (Nat.le_refl _) (by omega) (Nat.le_refl _) (fun b b1 b2 e e' => ?_)
    have e2 : g = b := by simpa [Value.ownBlock] using e'
    rcases hbg with q | q
    · exact e (by rw [q, e2])
    · omega
  · rcases List.mem_append.1 hy with q | q
    · exact h.sf y q
    · obtain rfl : y = s := by simpa using q
      exact hs
  · have b1 := h.bel.trans (hb.mono s0)
    have b2 := b1.trans (bA.mono (by omega))
    exact b2.trans ⟨hg.os, hg.tape, hg.output, hg.size, fun k hk' => hg.block k (by omega) (fun e => by have := hv k e.symm; obtain ⟨Z', _, o, _⟩ := h.ex; have := (o.lt k e.symm).1; omega)⟩
end Go.Proofs.Ytafpbnjfmieamaa.lst

/-
  slices.BinarySearchFunc over gluings in ascending order; what it says of the place.
-/
namespace Go.Proofs.Ytafpbnjfmieamaa.lst
open Go.ChangeShapes Go.WideShapes Go.ChangeAt Go.RowKit
open Go.Proofs.Ytafpbnjfmieamaa.mem Go.Proofs.Ytafpbnjfmieamaa.ints Go.Proofs.Ytafpbnjfmieamaa.arr Go.Proofs.Ytafpbnjfmieamaa.pm Go.Proofs.Ytafpbnjfmieamaa.sf Go.Proofs.Ytafpbnjfmieamaa.gl Go.Proofs.Ytafpbnjfmieamaa.orb
set_option linter.unusedVariables false
set_option maxRecDepth 100000

theorem insL_true : ∀ (L : List Sur) (s : Sur), insL L s true = L
  | [], s => rfl
  | x :: t, s => by simp [insL, insL_true t s]
/-- The place of t in L: all before it are less, none from it on is. -/
structure Pl (L : List Sur) (t : Sur) (i : Nat) : Prop where
  le : i ≤ L.length
  lo : ∀ (k : Nat) x, k < i → L[k]? = some x → bef x t = true
  hi : ∀ (k : Nat) x, i ≤ k → L[k]? = some x → bef x t = false
theorem bef_asym {a b : Sur} (h : bef a b = true) : bef b a = false := by
  cases q : bef b a
  · rfl
  · have := bef_trans h q; rw [bef_irr] at this; cases this
theorem Pl.ins {n : Nat} {t : Sur} (ht : Sf n t.1 t.2) : ∀ {L : List Sur} {i : Nat}, Pl L t i → (∀ y ∈ L, Sf n y.1 y.2) → insL L t false = if L[i]? = some t then L else L.take i ++ t :: L.drop i
  | [], i, h, _ => by
    obtain rfl : i = 0 := by have := h.le; simpa using this
    simp [insL]
  | x :: l, 0, h, hs => by
    have h0 := h.hi 0 x (Nat.le_refl _) rfl
    rw [insL]
    by_cases e : x = t
    · subst e
      simp [insL_true]
    · have q := hs x (List.mem_cons_self ..)
      have hb : bef t x = true := by
        rcases bef_total (a := t) (b := x) (by rw [ht.lr, q.lr]) (by rw [ht.lu, q.lu]) (fun q => e q.symm) with q | q
        · exact q
        · rw [h0] at q; cases q
      simp [e, hb, insL_true]
  | x :: l, i + 1, h, hs => by
    have h0 := h.lo 0 x (by omega) rfl
    have e : ¬ x = t := fun q => by rw [q, bef_irr] at h0; cases h0
    have ih := Pl.ins ht (L := l) (i := i) ⟨by have := h.le; simpa using this, fun k y hk hy => h.lo (k + 1) y (by omega) (by simpa using hy), fun k y hk hy => h.hi (k + 1) y (by omega) (by simpa using hy)⟩ (fun y hy => hs y (List.mem_cons_of_mem _ hy))
    rw [insL]
    simp only [e, bef_asym h0, decide_false, Bool.or_false, Bool.not_false, Bool.and_false, Bool.false_eq_true, if_false]
    rw [ih]
    simp only [List.getElem?_cons_succ, List.take_succ_cons, List.drop_succ_cons, List.cons_append]
    split <;> rfl
/-- The search: between i and j. -/
structure Sr (L : List Sur) (t : Sur) (i j : Nat) : Prop where
  le : i ≤ j
  top : j ≤ L.length
  lo : ∀ (k : Nat) x, k < i → L[k]? = some x → bef x t = true
  hi : ∀ (k : Nat) x, j ≤ k → L[k]? = some x → bef x t = false
theorem Sr.start (L : List Sur) (t : Sur) : Sr L t 0 L.length := ⟨Nat.zero_le _, Nat.le_refl _, fun k x h => by omega, fun k x h e => by rw [List.getElem?_eq_none h] at e; cases e⟩
theorem asc_at {L : List Sur} (h : L.Pairwise fun a b => bef a b = true) {i j : Nat} {x y : Sur} (hij : i < j) (hx : L[i]? = some x) (hy : L[j]? = some y) : bef x y = true := by
  obtain ⟨hi, rfl⟩ := List.getElem?_eq_some_iff.1 hx
  obtain ⟨hj, rfl⟩ := List.getElem?_eq_some_iff.1 hy
  exact List.pairwise_iff_getElem.1 h i j hi hj hij
theorem Sr.right {L : List Sur} {t x : Sur} {i j h : Nat} (s : Sr L t i j) (a : L.Pairwise fun a b => bef a b = true) (h2 : h < j) (hx : L[h]? = some x) (hb : bef x t = true) : Sr L t (h + 1) j :=
  ⟨h2, s.top, fun k y hk hy => by
    by_cases e : k = h
    · subst e; rw [hx] at hy; cases hy; exact hb
    · exact bef_trans (asc_at a (by omega) hy hx) hb, s.hi⟩
theorem Sr.left {L : List Sur} {t x : Sur} {i j h : Nat} (s : Sr L t i j) (a : L.Pairwise fun a b => bef a b = true) (h1 : i ≤ h) (h2 : h < j) (hx : L[h]? = some x) (hb : bef x t = false) : Sr L t i h :=
  ⟨h1, by have := s.top; omega, s.lo, fun k y hk hy => by
    by_cases e : k = h
    · subst e; rw [hx] at hy; cases hy; exact hb
    · cases q : bef y t
      · rfl
      · have := bef_trans (asc_at a (show h < k by omega) hx hy) q
        rw [hb] at this; cases this⟩
/-- The cells of gluings, one behind the other. -/
def flG (n : Nat) (L : List Sur) : List Value := L.flatMap fun s => V (gS s n)
theorem gS_vlen (s : Sur) (n : Nat) : (V (gS s n)).length = 49 := by rw [V_len, gS_len]
theorem flG_len (n : Nat) : ∀ L : List Sur, (flG n L).length = L.length * 49
  | [] => rfl
  | s :: L => by
    have := flG_len n L
    unfold flG at this ⊢
    rw [List.flatMap_cons, List.length_append, this, gS_vlen, List.length_cons]
    omega
theorem flG_at (n : Nat) : ∀ {L : List Sur} {k : Nat} {s : Sur}, L[k]? = some s → ∀ (j : Nat) v, (V (gS s n))[j]? = some v → (flG n L)[k * 49 + j]? = some v
  | [], k, s, h, _, _, _ => by simp at h
  | x :: L, 0, s, h, j, v, hj => by
    obtain rfl : x = s := by simpa using h
    unfold flG
    rw [List.flatMap_cons, Nat.zero_mul, Nat.zero_add, List.getElem?_append_left (List.getElem?_eq_some_iff.1 hj).1]
    exact hj
  | x :: L, k + 1, s, h, j, v, hj => by
    have := flG_at n (L := L) (k := k) (by simpa using h) j v hj
    unfold flG at this ⊢
    rw [List.flatMap_cons, List.getElem?_append_right (by rw [gS_vlen]; omega), gS_vlen, show (k + 1) * 49 + j - 49 = k * 49 + j by omega]
    exact this
theorem flG_range {w : World} {g n k : Nat} {L : List Sur} {s : Sur} (h : w.rangeAt g 0 (flG n L)) (hs : L[k]? = some s) : w.rangeAt g (k * 49) (V (gS s n)) := fun j v hj => by
  have := h _ v (flG_at n hs j v hj)
  rwa [Nat.zero_add] at this
theorem flG_take (n : Nat) : ∀ (L : List Sur) (i : Nat), (flG n L).take (i * 49) = flG n (L.take i) ∧ (flG n L).drop (i * 49) = flG n (L.drop i)
  | [], i => by simp [flG]
  | s :: L, 0 => by simp [flG]
  | s :: L, i + 1 => by
    have := flG_take n L i
    have l := gS_vlen s n
    unfold flG at this ⊢
    rw [List.flatMap_cons, List.take_succ_cons, List.drop_succ_cons, List.flatMap_cons]
    constructor
    · rw [List.take_append, List.take_of_length_le (by omega), l, show (i + 1) * 49 - 49 = i * 49 by omega, this.1]
    · rw [List.drop_append, List.drop_of_length_le (by omega), l, show (i + 1) * 49 - 49 = i * 49 by omega, this.2]
      rfl
theorem flG_put (n : Nat) (L : List Sur) (t : Sur) (i : Nat) : (flG n L).take (i * 49) ++ V (gS t n) ++ (flG n L).drop (i * 49) = flG n (L.take i ++ t :: L.drop i) := by
  rw [(flG_take n L i).1, (flG_take n L i).2]
  simp [flG]
theorem flG_one (n : Nat) (L : List Sur) : ∀ v ∈ flG n L, v.oneCell' = true := by
  intro v hv
  unfold flG at hv
  obtain ⟨s, _, q⟩ := List.mem_flatMap.1 hv
  unfold V at q
  obtain ⟨x, _, rfl⟩ := List.mem_map.1 q
  rfl
theorem _root_.Go.Proofs.Ytafpbnjfmieamaa.sf.Hld.start {w : World} {bs : List (Nat × List Value)} (h : ∀ p ∈ bs, p.1 < w.heap.size ∧ w.rangeAt p.1 0 p.2) : Hld w.heap.size w.heap.size w bs w.drew :=
  ⟨h, ⟨rfl, rfl, rfl, Nat.le_refl _, fun _ _ => rfl⟩, Nat.le_refl _⟩
def cmpS (a b : Sur) : Int := cmpG (ext a.1) (ext a.2) (ext b.1) (ext b.2)
theorem sf24 {n : Nat} {s : Sur} (h : Sf n s.1 s.2) : n ≤ 24 := by have := h.r.len; rw [h.lr] at this; exact this
theorem cmpS_lt {n : Nat} {a b : Sur} (ha : Sf n a.1 a.2) (hb : Sf n b.1 b.2) : decide (cmpS a b < 0) = bef a b := by
  have := sf24 ha
  unfold cmpS
  rw [cmpG_bef (by rw [ext_len, ext_len]) (by rw [ext_len, ext_len])]
  exact bef_ext (by rw [ha.lr, hb.lr]) (by rw [ha.lu, hb.lu]) (by rw [ha.lr]; exact this) (by rw [ha.lu]; exact this)
theorem cmpS_eq {n : Nat} {a b : Sur} (ha : Sf n a.1 a.2) (hb : Sf n b.1 b.2) : (cmpS a b = 0) ↔ a = b := by
  have hn := sf24 ha
  unfold cmpS cmpG
  have c1 := (cmpL_less (ext a.1) (ext b.1) (by rw [ext_len, ext_len])).2
  have c2 := (cmpL_less (ext a.2) (ext b.2) (by rw [ext_len, ext_len])).2
  constructor
  · intro h
    split at h
    · rename_i h1
      exact Prod.ext (ext_inj (by rw [ha.lr, hb.lr]) (by rw [ha.lr]; exact hn) (c1.1 h1)) (ext_inj (by rw [ha.lu, hb.lu]) (by rw [ha.lu]; exact hn) (c2.1 h))
    · exact absurd h (by assumption)
  · rintro rfl
    rw [if_pos (c1.2 rfl)]
    exact c2.2 rfl
theorem compareS (a b : Sur) (n : Nat) (w : World) :
    Calls Try.prog 47 #[.agg (V (gS a n)).toArray, .agg (V (gS b n)).toArray] w fun e w' => e = .returned (.int .i64 (cmpS a b)) ∧ Below w.heap.size w w' :=
  compare_any _ _ _ _ n n w (ext_len _) (ext_len _) (ext_len _) (ext_len _)
theorem hiS (s : Sur) (n : Nat) : (Try.prog.info? 62).map (·.size) = some (V (gS s n)).length := by rw [info49, gS_vlen]
set_option maxHeartbeats 400000 in
theorem bsG_none (A : Option Addr) (c n : Nat) (t : Sur) (w : World) :
    Calls Try.prog 77 #[.slice A 0 c, .agg (V (gS t n)).toArray, .func (.func 47) #[] #[]] w fun e w' => e = .returned (.tuple #[.int .i64 (0 : Nat), .bool false]) ∧ Below w.heap.size w w' := by
  have SZ : (V (gS t n)).toArray.size = 49 := by simp [gS_vlen]
  have LC : (V (gS t n)).toArray.toList = V (gS t n) := by simp
  have B0 : Hid (Below w.heap.size w ((w.alloc (.cells (V (gS t n)).toArray 62)))) := Lib.hid ((Below.refl _ _).alloc (Nat.le_refl _) _)
  go_enter Try.func77, Try.ntmps77
  go_wp2_with fail
  go_loopw [9, 10] (fun i j wr => i = .int .i64 (0 : Nat) ∧ j = .int .i64 (0 : Nat) ∧ Below w.heap.size w wr) (fun _ _ _ => 0)
  case atStart => exact ⟨rfl, rfl, B0.out⟩
  case round =>
    obtain ⟨rfl, rfl, bl⟩ := hrel
    have BL := Lib.hid bl; clear bl B0
    go_wp2_with fail
    refine wp_region_held_drew (S := Hld wr.heap.size wr.heap.size wr []) (by kernel_rfl) (Hld.start (fun p hp => by simp at hp)) (fun hHeld => ?_)
    have b1 : Below wr.heap.size wr wr.drew := ⟨rfl, rfl, rfl, Nat.le_refl _, fun _ _ => rfl⟩
    have BL2 := Lib.hid (BL.out.trans (b1.mono BL.out.size))
    generalize wr.drew = w2 at *
    clear b1 BL
    refine wpAnyH_take (i := 0) (v := .int .i64 (0 : Nat)) rfl (by kernel_rfl) (by kernel_rfl) (by kernel_rfl) (fun _ _ _ h => h) (Or.inl ⟨by kernel_rfl, fun w hSw => by go_simp⟩) hHeld ?_
    refine wpAnyH_take (i := 1) (v := .int .i64 (0 : Nat)) rfl (by kernel_rfl) (by kernel_rfl) (by kernel_rfl) (fun _ _ _ h => h) (Or.inl ⟨by kernel_rfl, fun w hSw => by go_simp⟩) hHeld ?_
    refine wpAnyH_take (i := 2) (v := .int .i64 (0 : Nat)) rfl (by kernel_rfl) (by kernel_rfl) (by kernel_rfl) (fun _ _ _ h => h) (Or.inl ⟨by kernel_rfl, fun w hSw => by go_simp⟩) hHeld ?_
    refine wpAnyH_take (i := 3) (v := .bool false) rfl (by kernel_rfl) (by kernel_rfl) (by kernel_rfl) (fun _ _ _ h => h) (Or.inl ⟨by kernel_rfl, fun w hSw => by go_simp⟩) hHeld ?_
    refine wpAnyH_take (i := 4) (v := .bool false) rfl (by kernel_rfl) (by kernel_rfl) (by kernel_rfl) (fun _ _ _ h => h) (Or.inl ⟨by kernel_rfl, fun w hSw => by go_simp⟩) hHeld ?_
    refine wpAnyH_take (i := 5) (v := undef) rfl (by kernel_rfl) (by kernel_rfl) (by kernel_rfl) (fun _ _ _ h => h) (Or.inr ⟨by kernel_rfl, rfl⟩) hHeld ?_
    refine wpAnyH_take (i := 6) (v := undef) rfl (by kernel_rfl) (by kernel_rfl) (by kernel_rfl) (fun _ _ _ h => h) (Or.inr ⟨by kernel_rfl, rfl⟩) hHeld ?_
    refine wpAnyH_take (i := 7) (v := undef) rfl (by kernel_rfl) (by kernel_rfl) (by kernel_rfl) (fun _ _ _ h => h) (Or.inr ⟨by kernel_rfl, rfl⟩) hHeld ?_
    refine wpAnyH_take (i := 8) (v := undef) rfl (by kernel_rfl) (by kernel_rfl) (by kernel_rfl) (fun _ _ _ h => h) (Or.inr ⟨by kernel_rfl, rfl⟩) hHeld ?_
    refine wpAnyH_take (i := 9) (v := undef) rfl (by kernel_rfl) (by kernel_rfl) (by kernel_rfl) (fun _ _ _ h => h) (Or.inr ⟨by kernel_rfl, rfl⟩) hHeld ?_
    refine wpAnyH_take (i := 10) (v := undef) rfl (by kernel_rfl) (by kernel_rfl) (by kernel_rfl) (fun _ _ _ h => h) (Or.inr ⟨by kernel_rfl, rfl⟩) hHeld ?_
    refine wpAnyH_take (i := 11) (v := undef) rfl (by kernel_rfl) (by kernel_rfl) (by kernel_rfl) (fun _ _ _ h => h) (Or.inr ⟨by kernel_rfl, rfl⟩) hHeld ?_
    refine wpAnyH_take (i := 12) (v := undef) rfl (by kernel_rfl) (by kernel_rfl) (by kernel_rfl) (fun _ _ _ h => h) (Or.inr ⟨by kernel_rfl, rfl⟩) hHeld ?_
    refine wpAnyH_take (i := 13) (v := .bool false) rfl (by kernel_rfl) (by kernel_rfl) (by kernel_rfl) (fun _ _ _ h => h) (Or.inl ⟨by kernel_rfl, fun w hSw => by go_simp⟩) hHeld ?_
    refine wpAnyH_take (i := 14) (v := .int .i64 (0 : Nat)) rfl (by kernel_rfl) (by kernel_rfl) (by kernel_rfl) (fun _ _ _ h => h) (Or.inl ⟨by kernel_rfl, fun w hSw => by go_simp⟩) hHeld ?_
    refine wpAnyH_take (i := 15) (v := .bool false) rfl (by kernel_rfl) (by kernel_rfl) (by kernel_rfl) (fun _ _ _ h => h) (Or.inl ⟨by kernel_rfl, fun w hSw => by go_simp⟩) hHeld ?_
    refine wpAnyH_done (by kernel_rfl) ?_ _
    go_simp
    go_wp2_with fail
    go_ret2
    exact ⟨rfl, BL2.out⟩
set_option maxHeartbeats 1000000 in
theorem bsG_some (g c n : Nat) (L : List Sur) (t : Sur) (w : World) (hg : g < w.heap.size) (hr : w.rangeAt g 0 (flG n L)) (ha : L.Pairwise fun a b => bef a b = true) (hs : ∀ y ∈ L, Sf n y.1 y.2) (ht : Sf n t.1 t.2) (hc : L.length ≤ c) (hl : L.length ≤ 1000) :
    Calls Try.prog 77 #[.slice (some ⟨g, 0, none⟩) L.length c, .agg (V (gS t n)).toArray, .func (.func 47) #[] #[]] w fun e w' => ∃ i : Nat, Pl L t i ∧ e = .returned (.tuple #[.int .i64 i, .bool (decide (L[i]? = some t))]) ∧ Below w.heap.size w w' := by
  have SZ : (V (gS t n)).toArray.size = 49 := by simp [gS_vlen]
  have LC : (V (gS t n)).toArray.toList = V (gS t n) := by simp
  have HA := Lib.hid ha; have HS := Lib.hid hs; have HT := Lib.hid ht; have HR := Lib.hid hr
  clear ha hs ht hr
  have B0 : Hid (∃ W, W = w.alloc (.cells (V (gS t n)).toArray 62) ∧ Below w.heap.size w W ∧ Arr W w.heap.size (V (gS t n)) 62) := Lib.hid ⟨_, rfl, (Below.refl _ _).alloc (Nat.le_refl _) _, Arr.new w _ _ rfl⟩
  go_enter Try.func77, Try.ntmps77
  go_wp2_with fail
  obtain ⟨w0, eW, bl0, ar0⟩ := B0.out
  rw [← eW]
  have BL0 := Lib.hid bl0; have AR0 := Lib.hid ar0
  clear eW bl0 ar0 B0 SZ LC
  go_loopw [9, 10] (fun u v wr => ∃ i j : Nat, u = .int .i64 i ∧ v = .int .i64 j ∧ Sr L t i j ∧ Arr wr w.heap.size (V (gS t n)) 62 ∧ Below w.heap.size w wr) (fun u v _ => (intOf v).toNat - (intOf u).toNat)
  case atStart => exact ⟨0, L.length, rfl, rfl, Sr.start L t, AR0.out, BL0.out⟩
  case round =>
    obtain ⟨i, j, rfl, rfl, sr, ar, bl⟩ := hrel
    have SR := Lib.hid sr; have AR := Lib.hid ar; have BL := Lib.hid bl; clear sr ar bl AR0 BL0
    have hij := SR.out.le; have hjl := SR.out.top
    by_cases hlt : i < j
    · obtain ⟨h, hh⟩ : ∃ h, h = (i + j) / 2 := ⟨_, rfl⟩
      have h1 : i ≤ h := by omega
      have h2 : h < j := by omega
      obtain ⟨x, hx⟩ : ∃ x, L[h]? = some x := ⟨_, List.getElem?_eq_getElem (by omega)⟩
      have HX := Lib.hid hx
      have SX : Sf n x.1 x.2 := HS.out x (List.mem_of_getElem? hx)
      have hd := cmpS_lt SX HT.out
      have hhl : h < L.length := by omega
      have hcast : ((i : Int) + (j : Int)) / 2 = ((h : Nat) : Int) := by omega
      clear hx SX hh
      go_wp2_with fail
      refine wp_region_held_drew (S := Hld wr.heap.size wr.heap.size wr [(g, flG n L), (w.heap.size, V (gS t n))]) (by kernel_rfl) (Hld.start (fun p hp => by
        have hgz : g < wr.heap.size := Nat.lt_of_lt_of_le hg BL.out.size
        rcases List.mem_cons.1 hp with rfl | hp
        · exact ⟨hgz, fun k v hk => by rw [BL.out.cell (p := ⟨g, 0 + k, none⟩) hg]; exact HR.out k v hk⟩
        · rcases List.mem_cons.1 hp with rfl | hp
          · exact ⟨AR.out.lt, fun k v hk => by rw [Nat.zero_add]; exact AR.out.cell hk⟩
          · simp at hp)) (fun hHeld => ?_)
      have b1 : Below wr.heap.size wr wr.drew := ⟨rfl, rfl, rfl, Nat.le_refl _, fun _ _ => rfl⟩
      have BL2 := Lib.hid (BL.out.trans (b1.mono BL.out.size)); have AR2 := Lib.hid (AR.out.keep b1 AR.out.lt)
      have s1 := b1.size
      generalize wr.drew = w2 at *
      clear b1 BL AR
      refine wpAnyH_take (i := 0) (v := .func (.func 47) #[] #[]) rfl (by kernel_rfl) (by kernel_rfl) (by kernel_rfl) (fun _ _ _ h => h) (Or.inl ⟨by kernel_rfl, fun w hSw => by go_simp⟩) hHeld ?_
      refine wpAnyH_take (i := 1) (v := .slice (some ⟨g, 0, none⟩) L.length c) rfl (by kernel_rfl) (by kernel_rfl) (by kernel_rfl) (fun _ _ _ h => h) (Or.inl ⟨by kernel_rfl, fun w hSw => by go_simp⟩) hHeld ?_
      refine wpAnyH_take (i := 2) (v := .int .i64 h) rfl (by kernel_rfl) (by kernel_rfl) (by kernel_rfl) (fun _ _ _ h => h) (Or.inl ⟨by kernel_rfl, fun w hSw => by go_simp⟩) hHeld ?_
      refine wpAnyH_take (i := 3) (v := .pointer (some ⟨g, h * 49, none⟩)) rfl (by kernel_rfl) (by kernel_rfl) (by kernel_rfl) (fun _ _ _ h => h) (Or.inl ⟨by kernel_rfl, fun w hSw => by go_simp⟩) hHeld ?_
      refine wpAnyH_take (i := 4) (v := .agg (V (gS x n)).toArray) rfl (by kernel_rfl) (by kernel_rfl) (by kernel_rfl) (fun _ _ _ h => h) (yieldsIf_load_mid (by kernel_rfl) _ _ rfl g (h * 49) (by kernel_rfl) (V (gS x n)) _ (fun w h => flG_range h.fst HX.out) Try.underlying62 rfl (hiS x n)) hHeld ?_
      refine wpAnyH_take (i := 5) (v := .agg (V (gS t n)).toArray) rfl (by kernel_rfl) (by kernel_rfl) (by kernel_rfl) (fun _ _ _ h => h) (yieldsIf_load_mid (by kernel_rfl) _ _ rfl w.heap.size 0 (by kernel_rfl) (V (gS t n)) _ (fun w h => h.snd) Try.underlying62 rfl (hiS t n)) hHeld ?_
      refine wpAnyH_ready (rs := [6]) (by kernel_rfl) (by simp) (AllReadyH.cons rfl (fun K hK => ?_) AllReadyH.nil)
      go_simp
      refine (compareS x t n _).mono ?_
      rintro e w3 ⟨rfl, b1⟩
      replace AR2 := Lib.hid (AR2.out.keep b1 AR2.out.lt)
      replace BL2 := Lib.hid (BL2.out.trans (b1.mono BL2.out.size))
      go_wp2_with fail
      have hHeld2 := hHeld.later b1 (Nat.le_refl _)
      clear b1 hHeld
      refine hK.out _ _ hHeld2 (fun hHeld => ?_)
      clear hK K hHeld2
      refine wpAnyH_take (i := 7) (v := .bool (decide (cmpS x t < 0))) rfl (by kernel_rfl) (by kernel_rfl) (by kernel_rfl) (fun _ _ _ h => h) (Or.inl ⟨by kernel_rfl, fun w hSw => by go_simp⟩) hHeld ?_
      refine wpAnyH_done (by kernel_rfl) ?_ _
      clear hHeld
      go_simp
      cases hb : bef x t
      · rw [hb] at hd
        have SN := Lib.hid (SR.out.left HA.out h1 h2 HX.out hb)
        clear hb
        go_wp2_with fail
        go_roundw
        case rel => exact ⟨i, h, rfl, rfl, SN.out, AR2.out, BL2.out⟩
        case measure => simp [intOf]; omega
      · rw [hb] at hd
        have SN := Lib.hid (SR.out.right HA.out h2 HX.out hb)
        clear hb
        go_wp2_with fail
        go_roundw
        case rel => exact ⟨h + 1, j, by go_num, rfl, SN.out, AR2.out, BL2.out⟩
        case measure => simp [intOf]; omega
    · obtain rfl : i = j := by omega
      have PL : Hid (Pl L t i) := Lib.hid ⟨SR.out.top, SR.out.lo, SR.out.hi⟩
      by_cases hil : i < L.length
      · obtain ⟨x, hx⟩ : ∃ x, L[i]? = some x := ⟨_, List.getElem?_eq_getElem hil⟩
        have SX : Sf n x.1 x.2 := HS.out x (List.mem_of_getElem? hx)
        have HD : Hid ((cmpS x t == 0) = decide (L[i]? = some t)) := Lib.hid (by
          rw [hx, show (cmpS x t == 0) = decide (cmpS x t = 0) from rfl]
          have := cmpS_eq SX HT.out
          by_cases e : x = t
          · rw [decide_eq_true (this.2 e), decide_eq_true (by rw [e])]
          · rw [decide_eq_false (fun q => e (this.1 q)), decide_eq_false (fun q => e (Option.some.inj q))])
        have HX := Lib.hid hx
        clear hx SX SR
        go_wp2_with fail
        refine wp_region_held_drew (S := Hld wr.heap.size wr.heap.size wr [(g, flG n L), (w.heap.size, V (gS t n))]) (by kernel_rfl) (Hld.start (fun p hp => by
          have hgz : g < wr.heap.size := Nat.lt_of_lt_of_le hg BL.out.size
          rcases List.mem_cons.1 hp with rfl | hp
          · exact ⟨hgz, fun k v hk => by rw [BL.out.cell (p := ⟨g, 0 + k, none⟩) hg]; exact HR.out k v hk⟩
          · rcases List.mem_cons.1 hp with rfl | hp
            · exact ⟨AR.out.lt, fun k v hk => by rw [Nat.zero_add]; exact AR.out.cell hk⟩
            · simp at hp)) (fun hHeld => ?_)
        have b1 : Below wr.heap.size wr wr.drew := ⟨rfl, rfl, rfl, Nat.le_refl _, fun _ _ => rfl⟩
        have BL2 := Lib.hid (BL.out.trans (b1.mono BL.out.size))
        have s1 := b1.size
        generalize wr.drew = w2 at *
        clear b1 BL AR
        refine wpAnyH_take (i := 0) (v := .int .i64 i) rfl (by kernel_rfl) (by kernel_rfl) (by kernel_rfl) (fun _ _ _ h => h) (Or.inl ⟨by kernel_rfl, fun w hSw => by go_simp⟩) hHeld ?_
        refine wpAnyH_take (i := 1) (v := .int .i64 i) rfl (by kernel_rfl) (by kernel_rfl) (by kernel_rfl) (fun _ _ _ h => h) (Or.inl ⟨by kernel_rfl, fun w hSw => by go_simp⟩) hHeld ?_
        refine wpAnyH_take (i := 2) (v := .int .i64 L.length) rfl (by kernel_rfl) (by kernel_rfl) (by kernel_rfl) (fun _ _ _ h => h) (Or.inl ⟨by kernel_rfl, fun w hSw => by go_simp⟩) hHeld ?_
        refine wpAnyH_take (i := 3) (v := .bool true) rfl (by kernel_rfl) (by kernel_rfl) (by kernel_rfl) (fun _ _ _ h => h) (Or.inl ⟨by kernel_rfl, fun w hSw => by go_simp⟩) hHeld ?_
        refine wpAnyH_take (i := 4) (v := .bool true) rfl (by kernel_rfl) (by kernel_rfl) (by kernel_rfl) (fun _ _ _ h => h) (Or.inl ⟨by kernel_rfl, fun w hSw => by go_simp⟩) hHeld ?_
        refine wpAnyH_take (i := 5) (v := .func (.func 47) #[] #[]) rfl (by kernel_rfl) (by kernel_rfl) (by kernel_rfl) (fun _ _ _ h => h) (Or.inl ⟨by kernel_rfl, fun w hSw => by go_simp⟩) hHeld ?_
        refine wpAnyH_take (i := 6) (v := .slice (some ⟨g, 0, none⟩) L.length c) rfl (by kernel_rfl) (by kernel_rfl) (by kernel_rfl) (fun _ _ _ h => h) (Or.inl ⟨by kernel_rfl, fun w hSw => by go_simp⟩) hHeld ?_
        refine wpAnyH_take (i := 7) (v := .int .i64 i) rfl (by kernel_rfl) (by kernel_rfl) (by kernel_rfl) (fun _ _ _ h => h) (Or.inl ⟨by kernel_rfl, fun w hSw => by go_simp⟩) hHeld ?_
        refine wpAnyH_take (i := 8) (v := .pointer (some ⟨g, i * 49, none⟩)) rfl (by kernel_rfl) (by kernel_rfl) (by kernel_rfl) (fun _ _ _ h => h) (Or.inl ⟨by kernel_rfl, fun w hSw => by go_simp⟩) hHeld ?_
        refine wpAnyH_take (i := 9) (v := .agg (V (gS x n)).toArray) rfl (by kernel_rfl) (by kernel_rfl) (by kernel_rfl) (fun _ _ _ h => h) (yieldsIf_load_mid (by kernel_rfl) _ _ rfl g (i * 49) (by kernel_rfl) (V (gS x n)) _ (fun w h => flG_range h.fst HX.out) Try.underlying62 rfl (hiS x n)) hHeld ?_
        refine wpAnyH_take (i := 10) (v := .agg (V (gS t n)).toArray) rfl (by kernel_rfl) (by kernel_rfl) (by kernel_rfl) (fun _ _ _ h => h) (yieldsIf_load_mid (by kernel_rfl) _ _ rfl w.heap.size 0 (by kernel_rfl) (V (gS t n)) _ (fun w h => h.snd) Try.underlying62 rfl (hiS t n)) hHeld ?_
        refine wpAnyH_ready (rs := [11]) (by kernel_rfl) (by simp) (AllReadyH.cons rfl (fun K hK => ?_) AllReadyH.nil)
        go_simp
        refine (compareS x t n _).mono ?_
        rintro e w3 ⟨rfl, b1⟩
        replace BL2 := Lib.hid (BL2.out.trans (b1.mono BL2.out.size))
        go_wp2_with fail
        have hHeld2 := hHeld.later b1 (Nat.le_refl _)
        clear b1 hHeld
        refine hK.out _ _ hHeld2 (fun hHeld => ?_)
        clear hK K hHeld2
        refine wpAnyH_take (i := 12) (v := .bool (cmpS x t == 0)) rfl (by kernel_rfl) (by kernel_rfl) (by kernel_rfl) (fun _ _ _ h => h) (Or.inl ⟨by kernel_rfl, fun w hSw => by go_simp⟩) hHeld ?_
        refine wpAnyH_take (i := 13) (v := .bool (cmpS x t == 0)) rfl (by kernel_rfl) (by kernel_rfl) (by kernel_rfl) (fun _ _ _ h => h) (Or.inl ⟨by kernel_rfl, fun w hSw => by go_simp⟩) hHeld ?_
        refine wpAnyH_take (i := 14) (v := .int .i64 i) rfl (by kernel_rfl) (by kernel_rfl) (by kernel_rfl) (fun _ _ _ h => h) (Or.inl ⟨by kernel_rfl, fun w hSw => by go_simp⟩) hHeld ?_
        refine wpAnyH_take (i := 15) (v := .bool (cmpS x t == 0)) rfl (by kernel_rfl) (by kernel_rfl) (by kernel_rfl) (fun _ _ _ h => h) (Or.inl ⟨by kernel_rfl, fun w hSw => by go_simp⟩) hHeld ?_
        refine wpAnyH_done (by kernel_rfl) ?_ _
        clear hHeld
        go_simp
        go_wp2_with fail
        go_ret2
        refine ⟨i, PL.out, ?_, BL2.out⟩
        rw [← HD.out]
        rfl
      · obtain rfl : i = L.length := by omega
        have HD : Hid (false = decide (L[L.length]? = some t)) := Lib.hid (by simp)
        clear SR
        go_wp2_with fail
        refine wp_region_held_drew (S := Hld wr.heap.size wr.heap.size wr []) (by kernel_rfl) (Hld.start (fun p hp => by simp at hp)) (fun hHeld => ?_)
        have b1 : Below wr.heap.size wr wr.drew := ⟨rfl, rfl, rfl, Nat.le_refl _, fun _ _ => rfl⟩
        have BL2 := Lib.hid (BL.out.trans (b1.mono BL.out.size))
        generalize wr.drew = w2 at *
        clear b1 BL AR
        refine wpAnyH_take (i := 0) (v := .int .i64 L.length) rfl (by kernel_rfl) (by kernel_rfl) (by kernel_rfl) (fun _ _ _ h => h) (Or.inl ⟨by kernel_rfl, fun w hSw => by go_simp⟩) hHeld ?_
        refine wpAnyH_take (i := 1) (v := .int .i64 L.length) rfl (by kernel_rfl) (by kernel_rfl) (by kernel_rfl) (fun _ _ _ h => h) (Or.inl ⟨by kernel_rfl, fun w hSw => by go_simp⟩) hHeld ?_
        refine wpAnyH_take (i := 2) (v := .int .i64 L.length) rfl (by kernel_rfl) (by kernel_rfl) (by kernel_rfl) (fun _ _ _ h => h) (Or.inl ⟨by kernel_rfl, fun w hSw => by go_simp⟩) hHeld ?_
        refine wpAnyH_take (i := 3) (v := .bool false) rfl (by kernel_rfl) (by kernel_rfl) (by kernel_rfl) (fun _ _ _ h => h) (Or.inl ⟨by kernel_rfl, fun w hSw => by go_simp⟩) hHeld ?_
        refine wpAnyH_take (i := 4) (v := .bool false) rfl (by kernel_rfl) (by kernel_rfl) (by kernel_rfl) (fun _ _ _ h => h) (Or.inl ⟨by kernel_rfl, fun w hSw => by go_simp⟩) hHeld ?_
        refine wpAnyH_take (i := 5) (v := undef) rfl (by kernel_rfl) (by kernel_rfl) (by kernel_rfl) (fun _ _ _ h => h) (Or.inr ⟨by kernel_rfl, rfl⟩) hHeld ?_
        refine wpAnyH_take (i := 6) (v := undef) rfl (by kernel_rfl) (by kernel_rfl) (by kernel_rfl) (fun _ _ _ h => h) (Or.inr ⟨by kernel_rfl, rfl⟩) hHeld ?_
        refine wpAnyH_take (i := 7) (v := undef) rfl (by kernel_rfl) (by kernel_rfl) (by kernel_rfl) (fun _ _ _ h => h) (Or.inr ⟨by kernel_rfl, rfl⟩) hHeld ?_
        refine wpAnyH_take (i := 8) (v := undef) rfl (by kernel_rfl) (by kernel_rfl) (by kernel_rfl) (fun _ _ _ h => h) (Or.inr ⟨by kernel_rfl, rfl⟩) hHeld ?_
        refine wpAnyH_take (i := 9) (v := undef) rfl (by kernel_rfl) (by kernel_rfl) (by kernel_rfl) (fun _ _ _ h => h) (Or.inr ⟨by kernel_rfl, rfl⟩) hHeld ?_
        refine wpAnyH_take (i := 10) (v := undef) rfl (by kernel_rfl) (by kernel_rfl) (by kernel_rfl) (fun _ _ _ h => h) (Or.inr ⟨by kernel_rfl, rfl⟩) hHeld ?_
        refine wpAnyH_take (i := 11) (v := undef) rfl (by kernel_rfl) (by kernel_rfl) (by kernel_rfl) (fun _ _ _ h => h) (Or.inr ⟨by kernel_rfl, rfl⟩) hHeld ?_
        refine wpAnyH_take (i := 12) (v := undef) rfl (by kernel_rfl) (by kernel_rfl) (by kernel_rfl) (fun _ _ _ h => h) (Or.inr ⟨by kernel_rfl, rfl⟩) hHeld ?_
        refine wpAnyH_take (i := 13) (v := .bool false) rfl (by kernel_rfl) (by kernel_rfl) (by kernel_rfl) (fun _ _ _ h => h) (Or.inl ⟨by kernel_rfl, fun w hSw => by go_simp⟩) hHeld ?_
        refine wpAnyH_take (i := 14) (v := .int .i64 L.length) rfl (by kernel_rfl) (by kernel_rfl) (by kernel_rfl) (fun _ _ _ h => h) (Or.inl ⟨by kernel_rfl, fun w hSw => by go_simp⟩) hHeld ?_
        refine wpAnyH_take (i := 15) (v := .bool false) rfl (by kernel_rfl) (by kernel_rfl) (by kernel_rfl) (fun _ _ _ h => h) (Or.inl ⟨by kernel_rfl, fun w hSw => by go_simp⟩) hHeld ?_
        refine wpAnyH_done (by kernel_rfl) ?_ _
        clear hHeld
        go_simp
        go_wp2_with fail
        go_ret2
        refine ⟨L.length, PL.out, ?_, BL2.out⟩
        rw [← HD.out]
        rfl
end Go.Proofs.Ytafpbnjfmieamaa.lst
