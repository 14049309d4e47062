import Derived.Test.YtpmojmhamgcfmaaGreatY16
import Derived.Test.YtpmojmhamgcfmaaGreatY06
import Derived.Test.YtpmojmhamgcfmaaGreatY13
import Derived.Test.YtpmojmhamgcfmaaGreatY07
import Derived.Test.YtpmojmhamgcfmaaGreatY15
import Derived.OwnWalk
import Derived.Test.YtpmojmhamgcfmaaGreatY14
import Derived.Test.YtpmojmhamgcfmaaGreatY12
import Derived.Test.YtpmojmhamgcfmaaGreatY05
import Derived.Deep.MidRow
import Derived.Deep.RegionHeld3
/-
  Lists of surfaces whose rows lie in blocks of their own, in any order: items (blocks, headers, surface); insertion.
-/
namespace Go.Proofs.YtpmojmhamgcfmaaGreat.lst
open Go.ChangeShapes Go.WideShapes Go.ChangeAt Go.RowKit
open Go.Proofs.YtpmojmhamgcfmaaGreat.mem Go.Proofs.YtpmojmhamgcfmaaGreat.ints Go.Proofs.YtpmojmhamgcfmaaGreat.arr Go.Proofs.YtpmojmhamgcfmaaGreat.pm Go.Proofs.YtpmojmhamgcfmaaGreat.sf Go.Proofs.YtpmojmhamgcfmaaGreat.orb
set_option linter.unusedVariables false
set_option maxRecDepth 100000

/-- The blocks of the two rows, their headers, the surface. -/
abbrev Item := (Nat × Nat) × (Value × Value) × Sur
def sOf (z : Item) : Sur := z.2.2
def bsOf (Z : List Item) : List Nat := Z.flatMap fun z => [z.1.1, z.1.2]
def hsOf (Z : List Item) : List Value := Z.flatMap fun z => [z.2.1.1, z.2.1.2]
structure Pk (w : World) (lo hi : Nat) (ex : Nat → Prop) (Z : List Item) : Prop where
  top : hi ≤ w.heap.size
  each : ∀ z ∈ Z, Rw1 w lo hi ex z.1.1 z.2.1.1 (sOf z).1 ∧ Rw1 w lo hi ex z.1.2 z.2.1.2 (sOf z).2
  nd : (bsOf Z).Nodup
theorem Pk.perm {w : World} {lo hi : Nat} {ex : Nat → Prop} {Z Z' : List Item} (h : Pk w lo hi ex Z) (p : Z.Perm Z') : Pk w lo hi ex Z' :=
  ⟨h.top, fun z hz => h.each z (p.mem_iff.2 hz), (p.flatMap_right _).nodup_iff.1 h.nd⟩
theorem Pk.nil (w : World) (lo hi : Nat) (ex : Nat → Prop) (h : hi ≤ w.heap.size) : Pk w lo hi ex [] := ⟨h, fun z hz => (by simp at hz), List.nodup_nil⟩
theorem Pk.sub {w : World} {lo hi : Nat} {ex : Nat → Prop} {Z Y : List Item} (h : Pk w lo hi ex (Z ++ Y)) : Pk w lo hi ex Z := by
  refine ⟨h.top, fun z hz => h.each z (List.mem_append_left _ hz), ?_⟩
  have := h.nd
  unfold bsOf at this ⊢
  rw [List.flatMap_append] at this
  exact (List.nodup_append.1 this).1
theorem Pk.keep {w w' : World} {lo hi : Nat} {ex : Nat → Prop} {Z : List Item} (h : Pk w lo hi ex Z) (hz : w.heap.size ≤ w'.heap.size) (hk : ∀ b, lo ≤ b → b < hi → ¬ ex b → w'.heap[b]? = w.heap[b]?) : Pk w' lo hi ex Z :=
  ⟨Nat.le_trans h.top hz, fun z q => by
    obtain ⟨a, b⟩ := h.each z q
    exact ⟨a.keep (hk _ a.lo_ a.hi_ a.ex_) hz, b.keep (hk _ b.lo_ b.hi_ b.ex_) hz⟩, h.nd⟩
theorem Pk.to {w : World} {lo hi lo' hi' : Nat} {ex ex' : Nat → Prop} {Z : List Item} (h : Pk w lo hi ex Z) (h1 : lo' ≤ lo) (h2 : hi ≤ hi') (h3 : hi' ≤ w.heap.size)
    (he : ∀ b, lo ≤ b → b < hi → ¬ ex b → ¬ ex' b) : Pk w lo' hi' ex' Z :=
  ⟨h3, fun z q => by
    obtain ⟨a, b⟩ := h.each z q
    exact ⟨a.to h1 h2 (he _ a.lo_ a.hi_ a.ex_), b.to h1 h2 (he _ b.lo_ b.hi_ b.ex_)⟩, h.nd⟩
theorem hs_len : ∀ Z : List Item, (hsOf Z).length = Z.length * 2
  | [] => rfl
  | z :: t => by
    have := hs_len t
    unfold hsOf at this ⊢
    rw [List.flatMap_cons, List.length_append, this, List.length_cons]
    simp; omega
theorem hs_app (Z Y : List Item) : hsOf (Z ++ Y) = hsOf Z ++ hsOf Y := by simp [hsOf]
theorem hs_at : ∀ {Z : List Item} {k : Nat} {z : Item}, Z[k]? = some z → (hsOf Z)[k * 2]? = some z.2.1.1 ∧ (hsOf Z)[k * 2 + 1]? = some z.2.1.2
  | [], k, z, h => by simp at h
  | y :: t, 0, z, h => by
    obtain rfl : y = z := by simpa using h
    simp [hsOf]
  | y :: t, k + 1, z, h => by
    have := hs_at (Z := t) (k := k) (z := z) (by simpa using h)
    unfold hsOf at this ⊢
    rw [List.flatMap_cons, show (k + 1) * 2 = k * 2 + 1 + 1 by omega]
    simpa using this
theorem bs_mem {Z : List Item} {z : Item} (h : z ∈ Z) : z.1.1 ∈ bsOf Z ∧ z.1.2 ∈ bsOf Z := by
  unfold bsOf
  exact ⟨List.mem_flatMap.2 ⟨z, h, by simp⟩, List.mem_flatMap.2 ⟨z, h, by simp⟩⟩
theorem nd_cons {z : Item} {Z : List Item} : (bsOf (z :: Z)).Nodup ↔ z.1.1 ≠ z.1.2 ∧ z.1.1 ∉ bsOf Z ∧ z.1.2 ∉ bsOf Z ∧ (bsOf Z).Nodup := by
  unfold bsOf
  rw [List.flatMap_cons]
  show (z.1.1 :: z.1.2 :: (Z.flatMap fun z => [z.1.1, z.1.2])).Nodup ↔ _
  rw [List.nodup_cons, List.nodup_cons, List.mem_cons, not_or]
  exact ⟨fun ⟨⟨a, b⟩, c, d⟩ => ⟨a, b, c, d⟩, fun ⟨a, b, c, d⟩ => ⟨⟨a, b⟩, c, d⟩⟩
def blk0 (Z : List Item) (k : Nat) : Nat × Nat := (Z[k]?.map fun z => z.1).getD (0, 0)
theorem nd_ne : ∀ {Z : List Item}, (bsOf Z).Nodup → ∀ (i j : Nat) (y z : Item), Z[i]? = some y → Z[j]? = some z → i ≠ j → y.1.1 ≠ z.1.1 ∧ y.1.1 ≠ z.1.2 ∧ y.1.2 ≠ z.1.2
  | [], _, i, j, y, z, h, _, _ => by simp at h
  | x :: t, h, 0, 0, y, z, hy, hz, hn => absurd rfl hn
  | x :: t, h, 0, j + 1, y, z, hy, hz, hn => by
    obtain rfl : x = y := by simpa using hy
    obtain ⟨a, b, c, d⟩ := nd_cons.1 h
    have := bs_mem (List.mem_of_getElem? (show t[j]? = some z by simpa using hz))
    exact ⟨fun e => b (e ▸ this.1), fun e => b (e ▸ this.2), fun e => c (e ▸ this.2)⟩
  | x :: t, h, i + 1, 0, y, z, hy, hz, hn => by
    obtain rfl : x = z := by simpa using hz
    obtain ⟨a, b, c, d⟩ := nd_cons.1 h
    have := bs_mem (List.mem_of_getElem? (show t[i]? = some y by simpa using hy))
    exact ⟨fun e => b (e ▸ this.1), fun e => c (e ▸ this.1), fun e => c (e ▸ this.2)⟩
  | x :: t, h, i + 1, j + 1, y, z, hy, hz, hn => nd_ne (nd_cons.1 h).2.2.2 i j y z (by simpa using hy) (by simpa using hz) (by omega)
/-- Items in memory are a list of surfaces in memory. -/
theorem Pk.ls {w : World} {lo hi : Nat} {ex : Nat → Prop} {Z : List Item} (h : Pk w lo hi ex Z) : Ls w lo hi ex (blk0 Z) (hsOf Z) (Z.map sOf) := by
  refine ⟨by rw [hs_len, List.length_map], h.top, fun k s hk => ?_, fun i j hi hj hij => ?_⟩
  · rw [List.getElem?_map] at hk
    cases hz : Z[k]? with
    | none => rw [hz] at hk; simp at hk
    | some z =>
      rw [hz] at hk
      obtain rfl : sOf z = s := by simpa using hk
      obtain ⟨a, b⟩ := h.each z (List.mem_of_getElem? hz)
      have eb : blk0 Z k = z.1 := by simp [blk0, hz]
      obtain ⟨e1, e2⟩ := hs_at hz
      refine ⟨_, _, e1, e2, by rw [eb]; exact a, by rw [eb]; exact b, ?_⟩
      rw [eb]
      obtain ⟨p, q, e⟩ := List.append_of_mem (List.mem_of_getElem? hz)
      have hp : Z.Perm (z :: (p ++ q)) := by rw [e]; exact List.perm_middle
      exact (nd_cons.1 (h.perm hp).nd).1
  · rw [List.length_map] at hi hj
    have ei := List.getElem?_eq_getElem hi
    have ej := List.getElem?_eq_getElem hj
    have e1 : blk0 Z i = Z[i].1 := by simp [blk0, ei]
    have e2 : blk0 Z j = Z[j].1 := by simp [blk0, ej]
    rw [e1, e2]
    exact nd_ne h.nd i j _ _ ei ej hij
/-- The first i items looked at: what is out, and whether the new one is placed. -/
def insStep (z : Item) (o : List Item × Bool) (x : Item) : List Item × Bool :=
  if !(o.2 || decide (sOf x = sOf z)) && bef (sOf z) (sOf x) then (o.1 ++ [z, x], true) else (o.1 ++ [x], o.2 || decide (sOf x = sOf z))
def insTo (z : Item) (Z : List Item) : List Item × Bool := Z.foldl (insStep z) ([], false)
def insZ (z : Item) (Z : List Item) : List Item := if (insTo z Z).2 then (insTo z Z).1 else (insTo z Z).1 ++ [z]
theorem insTo_snoc (z : Item) (Z : List Item) (x : Item) : insTo z (Z ++ [x]) = insStep z (insTo z Z) x := by simp [insTo]
theorem insTo_next {z : Item} {Z : List Item} {k : Nat} {x : Item} (h : Z[k]? = some x) : insTo z (Z.take (k + 1)) = insStep z (insTo z (Z.take k)) x := by
  rw [List.take_add_one, h]
  exact insTo_snoc _ _ _
theorem ins_fold (z : Item) : ∀ (Z acc : List Item) (d : Bool), (let o := Z.foldl (insStep z) (acc, d); (if o.2 then o.1 else o.1 ++ [z]).map sOf) = acc.map sOf ++ insL (Z.map sOf) (sOf z) d
  | [], acc, d => by cases d <;> simp [insL]
  | x :: t, acc, d => by
    rw [List.foldl_cons]
    show _ = acc.map sOf ++ insL (sOf x :: t.map sOf) (sOf z) d
    rw [insL]
    by_cases h : (!(d || decide (sOf x = sOf z)) && bef (sOf z) (sOf x)) = true
    · have e : insStep z (acc, d) x = (acc ++ [z, x], true) := by simp only [insStep, h, if_true]
      rw [e, ins_fold z t, if_pos h]
      simp
    · have e : insStep z (acc, d) x = (acc ++ [x], d || decide (sOf x = sOf z)) := by
        simp only [insStep]
        rw [if_neg h]
      rw [e, ins_fold z t, if_neg h]
      simp
theorem insZ_map (z : Item) (Z : List Item) : (insZ z Z).map sOf = insL (Z.map sOf) (sOf z) false := by
  exact (ins_fold z Z [] false).trans (List.nil_append _)
/-- What is out so far is what was looked at, and the new one, if it is placed; or it was there. -/
theorem insTo_perm (z : Item) : ∀ (Z acc : List Item) (d : Bool), ∃ Y, ((Z.foldl (insStep z) (acc, d)).1).Perm (Y ++ (acc ++ Z)) ∧ (Y = [] ∨ (Y = [z] ∧ d = false ∧ (Z.foldl (insStep z) (acc, d)).2 = true))
  | [], acc, d => ⟨[], by simp, .inl rfl⟩
  | x :: t, acc, d => by
    rw [List.foldl_cons]
    by_cases h : (!(d || decide (sOf x = sOf z)) && bef (sOf z) (sOf x)) = true
    · have e : insStep z (acc, d) x = (acc ++ [z, x], true) := by simp only [insStep, h, if_true]
      have hd : d = false := by
        cases d
        · rfl
        · simp at h
      rw [e]
      obtain ⟨Y, p, q⟩ := insTo_perm z t (acc ++ [z, x]) true
      rcases q with rfl | ⟨_, q, _⟩
      · refine ⟨[z], ?_, .inr ⟨rfl, hd, ?_⟩⟩
        · refine p.trans ?_
          rw [List.nil_append, List.append_assoc]
          show (acc ++ z :: x :: t).Perm (z :: (acc ++ x :: t))
          exact List.perm_middle
        · exact ins_done z t _
      · cases q
    · have e : insStep z (acc, d) x = (acc ++ [x], d || decide (sOf x = sOf z)) := by
        simp only [insStep]
        rw [if_neg h]
      rw [e]
      obtain ⟨Y, p, q⟩ := insTo_perm z t (acc ++ [x]) (d || decide (sOf x = sOf z))
      refine ⟨Y, by rw [List.append_assoc] at p; exact p, ?_⟩
      rcases q with rfl | ⟨q1, q2, q3⟩
      · exact .inl rfl
      · refine .inr ⟨q1, ?_, q3⟩
        cases d
        · rfl
        · simp at q2
where ins_done (z : Item) : ∀ (Z acc : List Item), (Z.foldl (insStep z) (acc, true)).2 = true
  | [], acc => rfl
  | x :: t, acc => by
    rw [List.foldl_cons]
    have e : insStep z (acc, true) x = (acc ++ [x], true) := by simp [insStep]
    rw [e]
    exact ins_done z t _
theorem insZ_perm (z : Item) (Z : List Item) : (insZ z Z).Perm Z ∨ (insZ z Z).Perm (z :: Z) := by
  obtain ⟨Y, p, q⟩ := insTo_perm z Z [] false
  unfold insZ insTo
  rcases q with rfl | ⟨rfl, _, q3⟩
  · split
    · exact .inl (by simpa using p)
    · refine .inr ?_
      refine (p.append_right [z]).trans ?_
      simp only [List.nil_append]
      exact List.perm_append_comm
  · rw [if_pos q3]
    exact .inr (by simpa using p)
/-- The new list's items are in memory, if the old and the new one are. -/
theorem Pk.ins {w : World} {lo hi : Nat} {ex : Nat → Prop} {Z : List Item} {z : Item} (h : Pk w lo hi ex (z :: Z)) : Pk w lo hi ex (insZ z Z) := by
  rcases insZ_perm z Z with p | p
  · have hz : Pk w lo hi ex Z := by
      have := h.perm (show (z :: Z).Perm (Z ++ [z]) from (List.perm_append_comm (l₁ := [z]) (l₂ := Z)))
      exact this.sub
    exact hz.perm p.symm
  · exact h.perm p.symm
end Go.Proofs.YtpmojmhamgcfmaaGreat.lst

/-
  A form put at its place, of the model: l10Insert.
-/
namespace Go.Proofs.YtpmojmhamgcfmaaGreat.lst
open Go.ChangeShapes Go.WideShapes Go.ChangeAt Go.RowKit
open Go.Proofs.YtpmojmhamgcfmaaGreat.mem Go.Proofs.YtpmojmhamgcfmaaGreat.ints Go.Proofs.YtpmojmhamgcfmaaGreat.arr Go.Proofs.YtpmojmhamgcfmaaGreat.pm Go.Proofs.YtpmojmhamgcfmaaGreat.sf Go.Proofs.YtpmojmhamgcfmaaGreat.orb
set_option linter.unusedVariables false
set_option maxRecDepth 100000

theorem infoS10 : (Tryz.prog.info? 31).map (fun i => (i.zero, i.size, i.bytes)) = some (some (.agg #[.slice none 0 0, .slice none 0 0]), 2, 48) := by kernel_rfl
/-- The list that is being made: in memory of its own. -/
structure Io (w wr : World) (vo : Value) (Y : List Item) : Prop where
  own : wr.ownsRow w.heap.size 31 2 vo Y.length (hsOf Y)
  bel : Below w.heap.size w wr
theorem Io.keep {w wr w' : World} {vo : Value} {Y : List Item} (h : Io w wr vo Y) (hb : Below wr.heap.size wr w') : Io w w' vo Y :=
  ⟨own_block_keep h.own (fun b e => hb.block b (h.own.lt b e).2), h.bel.trans (hb.mono h.bel.size)⟩
theorem Io.push {w wr W w' : World} {vo : Value} {Y : List Item} {z : Item} {g cap k : Nat} (h : Io w wr vo Y) (hW : Below wr.heap.size wr W) (hk : k = Y.length)
    (ho : w'.ownsRow w.heap.size 31 2 (.slice (some ⟨g, 0, none⟩) (k + 1) cap) (k + 1) (hsOf Y ++ [z.2.1.1, z.2.1.2])) (hg : W.grownBy w' vo.ownBlock) : Io w w' (.slice (some ⟨g, 0, none⟩) (k + 1) cap) (Y ++ [z]) := by
  subst hk
  have hl := h.bel.size; have t2 := hW.size; have t3 := hg.size
  refine ⟨?_, h.bel.trans ⟨hg.os.trans hW.os, hg.tape.trans hW.tape, hg.output.trans hW.output, by omega, fun b hb => (hg.block b (by omega) (fun e => ?_)).trans (hW.block b (by omega))⟩⟩
  · rw [hs_app, List.length_append, List.length_singleton]
    exact ho
  · have := (h.own.lt b e.symm).1
    omega
/-- A box that the list's memory is not. -/
structure Bx (wr : World) (vo : Value) (b : Nat) (x : Value × Value) : Prop where
  box : Arr wr b [x.1, x.2] 31
  nb : ¬ vo.ownBlock = some b
theorem Bx.keep {wr w' : World} {vo : Value} {b : Nat} {x : Value × Value} (h : Bx wr vo b x) (hb : Below wr.heap.size wr w') : Bx w' vo b x := ⟨h.box.keep hb h.box.lt, h.nb⟩
theorem Bx.push {wr W w' : World} {vo : Value} {b g n cap : Nat} {x : Value × Value} (h : Bx wr vo b x) (hW : Below wr.heap.size wr W) (hg : W.grownBy w' vo.ownBlock) (hb : vo.ownBlock = some g ∨ g = W.heap.size) : Bx w' (.slice (some ⟨g, 0, none⟩) n cap) b x := by
  have hlt := h.box.lt; have hs := hW.size
  refine ⟨((hg.block b (by omega) (fun e => h.nb e.symm)).trans (hW.block b hlt)).trans h.box, fun e => ?_⟩
  have e2 : g = b := by simpa [Value.ownBlock] using e
  rcases hb with q | q
  · exact h.nb (by rw [q, e2])
  · omega
theorem own_at {w : World} {base n c k : Nat} {A : Option Addr} {Z : List Item} {z : Item} (ho : w.ownsRow base 31 2 (.slice A n c) n (hsOf Z)) (hn : Z.length = n) (hz : Z[k]? = some z) :
    ∃ g off, A = some ⟨g, off, none⟩ ∧ g < w.heap.size ∧ w.cell? ⟨g, off + k * 2, none⟩ = some z.2.1.1 ∧ w.cell? ⟨g, off + k * 2 + 1, none⟩ = some z.2.1.2 := by
  have hkl := (List.getElem?_eq_some_iff.1 hz).1
  rcases ho.2 with ⟨q, q0⟩ | ⟨g, cap, cur, q, hb, hh, hc, _, hzz, ht⟩
  · injection q with q1 q2 q3
    omega
  · have hlt : g < w.heap.size := by
      rcases Nat.lt_or_ge g w.heap.size with hl | hl
      · exact hl
      · rw [Array.getElem?_eq_none hl] at hh; cases hh
    injection q with q1 q2 q3
    subst q1; subst q3
    obtain ⟨e1, e2⟩ := hs_at hz
    have cell : ∀ (j : Nat) (u : Value), (hsOf Z)[j]? = some u → w.cell? ⟨g, 0 + j, none⟩ = some u := fun j u hu => by
      have := ho.cells (g := g) rfl j u hu
      rwa [add0] at this
    exact ⟨g, 0, rfl, hlt, cell _ _ e1, by rw [Nat.add_assoc]; exact cell _ _ e2⟩
theorem Pk.srd {w : World} {lo hi : Nat} {ex : Nat → Prop} {Z : List Item} {z : Item} (h : Pk w lo hi ex Z) (hz : z ∈ Z) :
    ∃ P c Q d, z.2.1 = (.slice P (sOf z).1.length c, .slice Q (sOf z).2.length d) ∧ Srd w hi (.agg #[.slice P (sOf z).1.length c, .slice Q (sOf z).2.length d]) (sOf z).1 (sOf z).2 := by
  obtain ⟨r1, r2⟩ := h.each z hz
  obtain ⟨P, c, e1, c1, p1, w1⟩ := r1.row
  obtain ⟨Q, d, e2, c2, p2, w2⟩ := r2.row
  have q1 := r1.hi_; have q2 := r2.hi_; have q3 := h.top
  exact ⟨P, c, Q, d, Prod.ext e1 e2, P, _, c, Q, _, d, rfl, sf.Rd.wider w1.rd (by omega) q3, sf.Rd.wider w2.rd (by omega) q3, c1, c2⟩
end Go.Proofs.YtpmojmhamgcfmaaGreat.lst

/-
  Lists of lists in a row of headers, each list in a block of its own; slices.BinarySearchFunc over them.
-/
namespace Go.Proofs.YtpmojmhamgcfmaaGreat.lst
open Go.ChangeShapes Go.WideShapes Go.ChangeAt Go.RowKit
open Go.Proofs.YtpmojmhamgcfmaaGreat.mem Go.Proofs.YtpmojmhamgcfmaaGreat.ints Go.Proofs.YtpmojmhamgcfmaaGreat.arr Go.Proofs.YtpmojmhamgcfmaaGreat.pm Go.Proofs.YtpmojmhamgcfmaaGreat.sf Go.Proofs.YtpmojmhamgcfmaaGreat.gl Go.Proofs.YtpmojmhamgcfmaaGreat.orb
open Go.Proofs.YtpmojmhamgcfmaaGreat.wd
set_option linter.unusedVariables false
set_option maxRecDepth 100000

/-- A block, a header, a list. -/
abbrev RI := Nat × Value × List Int
def lOf (z : RI) : List Int := z.2.2
def hdOf (Z : List RI) : List Value := Z.map fun z => z.2.1
/-- The lists lie in blocks of their own, from lo on and below hi, none in ex. -/
structure Rk (w : World) (lo hi : Nat) (ex : Nat → Prop) (Z : List RI) : Prop where
  top : hi ≤ w.heap.size
  each : ∀ z ∈ Z, ∃ A c, z.2.1 = .slice A (lOf z).length c ∧ (lOf z).length ≤ c ∧ (lOf z).length ≤ 100 ∧ (0 < (lOf z).length → lo ≤ z.1 ∧ z.1 < hi ∧ ¬ ex z.1 ∧ Row w z.1 (z.1 + 1) A (lOf z).length (V (lOf z)))
  ne : Z.Pairwise fun a b => 0 < (lOf a).length → 0 < (lOf b).length → a.1 ≠ b.1
theorem Rk.keep {w w' : World} {lo hi : Nat} {ex : Nat → Prop} {Z : List RI} (h : Rk w lo hi ex Z) (hz : w.heap.size ≤ w'.heap.size) (hk : ∀ b, lo ≤ b → b < hi → ¬ ex b → w'.heap[b]? = w.heap[b]?) : Rk w' lo hi ex Z :=
  ⟨Nat.le_trans h.top hz, fun z q => by
    obtain ⟨A, c, e1, e2, e3, r⟩ := h.each z q
    exact ⟨A, c, e1, e2, e3, fun p => ⟨(r p).1, (r p).2.1, (r p).2.2.1, mat.Row.block (r p).2.2.2 (hk _ (r p).1 (r p).2.1 (r p).2.2.1) hz⟩⟩, h.ne⟩
theorem Rk.to {w : World} {lo hi lo' hi' : Nat} {ex ex' : Nat → Prop} {Z : List RI} (h : Rk w lo hi ex Z) (h1 : lo' ≤ lo) (h2 : hi ≤ hi') (h3 : hi' ≤ w.heap.size) (he : ∀ b, lo ≤ b → b < hi → ¬ ex b → ¬ ex' b) : Rk w lo' hi' ex' Z :=
  ⟨h3, fun z q => by
    obtain ⟨A, c, e1, e2, e3, r⟩ := h.each z q
    exact ⟨A, c, e1, e2, e3, fun p => ⟨Nat.le_trans h1 (r p).1, Nat.lt_of_lt_of_le (r p).2.1 h2, he _ (r p).1 (r p).2.1 (r p).2.2.1, (r p).2.2.2⟩⟩, h.ne⟩
theorem Rk.perm {w : World} {lo hi : Nat} {ex : Nat → Prop} {Z Z' : List RI} (h : Rk w lo hi ex Z) (p : Z.Perm Z') : Rk w lo hi ex Z' :=
  ⟨h.top, fun z hz => h.each z (p.mem_iff.2 hz), (p.pairwise_iff (fun hab p q => fun e => hab q p e.symm)).1 h.ne⟩
theorem Rk.nil (w : World) (lo hi : Nat) (ex : Nat → Prop) (h : hi ≤ w.heap.size) : Rk w lo hi ex [] := ⟨h, fun z hz => by simp at hz, List.Pairwise.nil⟩
theorem rd_row {w : World} {b hi n : Nat} {A : Option Addr} {xs : List Value} (hh : hi ≤ w.heap.size) (hl : xs.length = n) (r : 0 < n → b < hi ∧ Row w b (b + 1) A n xs) : Rd w hi A n xs := by
  rcases Nat.eq_zero_or_pos n with e | e
  · subst e
    exact ⟨hl, hh, fun h => by omega⟩
  · exact sf.Rd.wider (r e).2.rd (by have := (r e).1; omega) hh
theorem Rk.rd {w : World} {lo hi : Nat} {ex : Nat → Prop} {Z : List RI} {z : RI} (h : Rk w lo hi ex Z) (hz : z ∈ Z) : ∃ A c, z.2.1 = .slice A (lOf z).length c ∧ (lOf z).length ≤ 100 ∧ Rd w hi A (lOf z).length (V (lOf z)) := by
  obtain ⟨A, c, e1, e2, e3, r⟩ := h.each z hz
  exact ⟨A, c, e1, e3, rd_row h.top (V_len _) (fun p => ⟨(r p).2.1, (r p).2.2.2⟩)⟩
/-- A fresh list joins. -/
theorem Rk.cons {w : World} {lo hi hi' n c : Nat} {ex : Nat → Prop} {Z : List RI} {A : Option Addr} {xs : List Int} (h : Rk w lo hi ex Z) (ho : w.ownsRow hi 3 1 (.slice A n c) n (V xs)) (hl : lo ≤ hi) (hh : hi ≤ hi') (ht : hi' = w.heap.size) (hx : xs.length ≤ 100) (he : ∀ b, hi ≤ b → b < hi' → ¬ ex b) :
    ∃ b, n = xs.length ∧ Rk w lo hi' ex ((b, .slice A n c, xs) :: Z) := by
  have hn : n = xs.length := by have := ho.1; rw [V_len] at this; omega
  subst hn
  rcases ho.2 with ⟨q, q2⟩ | ⟨g, cap, cur, q, h1, h2, h3, h4, h5, h6⟩
  · injection q with q0 q1 q3
    subst q0; subst q3
    refine ⟨0, rfl, by omega, fun z hz => ?_, List.pairwise_cons.2 ⟨fun z hz p => by dsimp only [lOf] at p; omega, h.ne⟩⟩
    rcases List.mem_cons.1 hz with rfl | e
    · exact ⟨none, 0, rfl, by dsimp only [lOf]; omega, hx, fun p => by dsimp only [lOf] at p; omega⟩
    · exact (h.to (Nat.le_refl _) hh (by omega) (fun _ _ _ q => q)).each z e
  · have hg : g < w.heap.size := (Array.getElem?_eq_some_iff.1 h2).1
    injection q with q1 q2 q3
    subst q1; subst q3
    have rr := Row.of_own ho
    have RB : 0 < xs.length → Row w g (g + 1) (some ⟨g, 0, none⟩) xs.length (V xs) := fun p => by
      refine ⟨rr.1, hg, fun hp => ?_⟩
      obtain ⟨g', off, e, l1, l2, hc⟩ := rr.2.2 hp
      injection e with e
      injection e with e1 e2
      subst e1; subst e2
      exact ⟨g, 0, rfl, Nat.le_refl _, by omega, hc⟩
    refine ⟨g, rfl, by omega, fun z hz => ?_, List.pairwise_cons.2 ⟨fun z hz p1 p2 => ?_, h.ne⟩⟩
    · rcases List.mem_cons.1 hz with rfl | e
      · exact ⟨_, _, rfl, h3, hx, fun p => ⟨by show lo ≤ g; omega, by show g < hi'; omega, he g h1 (by omega), RB p⟩⟩
      · exact (h.to (Nat.le_refl _) hh (by omega) (fun _ _ _ q => q)).each z e
    · obtain ⟨A', c', _, _, _, r⟩ := h.each z hz
      have := (r p2).2.1
      show g ≠ z.1
      omega
theorem hd_len (Z : List RI) : (hdOf Z).length = Z.length := by simp [hdOf]
theorem hd_at {Z : List RI} {k : Nat} {z : RI} (h : Z[k]? = some z) : (hdOf Z)[k]? = some z.2.1 := by simp [hdOf, h]
theorem l_at {Z : List RI} {k : Nat} {z : RI} (h : Z[k]? = some z) : (Z.map lOf)[k]? = some (lOf z) := by simp [h]
set_option maxHeartbeats 2000000 in
theorem bsH_any (base lo hi h1 : Nat) (v : Value) (Z : List RI) (t : List Int) (At : Option Addr) (ct : Nat) (ex : Nat → Prop) (w : World) (ho : w.ownsRow base 29 1 v Z.length (hdOf Z)) (hp : Rk w lo hi ex Z) (ha : (Z.map lOf).Pairwise fun a b => lessX a b = true) (ht : Rd w h1 At t.length (V t)) (hl : Z.length ≤ 1000) (hx : t.length ≤ 100) :
    Calls Tryz.prog 30 #[v, .slice At t.length ct, .func (.func 13) #[] #[]] w fun e w' => ∃ i : Nat, Pt (Z.map lOf) t i ∧ e = .returned (.tuple #[.int .i64 i, .bool (decide ((Z.map lOf)[i]? = some t))]) ∧ w' = w := by
  have HO := Lib.hid ho; have HP := Lib.hid hp; have HA := Lib.hid ha; have HT := Lib.hid ht
  have hZ : ∃ A c, v = .slice A Z.length c := mem.own_form ho
  obtain ⟨A, c, rfl⟩ := hZ
  have HL : Hid ((Z.map lOf).length = Z.length) := Lib.hid (List.length_map ..)
  clear ho hp ha ht
  go_enter Tryz.func30, Tryz.ntmps30
  go_wp2_with fail
  go_loopw [9, 10] (fun u v wr => ∃ i j : Nat, u = .int .i64 i ∧ v = .int .i64 j ∧ St (Z.map lOf) t i j ∧ wr = w) (fun u v _ => (intOf v).toNat - (intOf u).toNat)
  case atStart => exact ⟨0, Z.length, rfl, rfl, by have := St.start (Z.map lOf) t; rwa [HL.out] at this, rfl⟩
  case round =>
    obtain ⟨i, j, rfl, rfl, sr, rfl⟩ := hrel
    have SR := Lib.hid sr; clear sr
    have hij := SR.out.le; have hjl : j ≤ Z.length := by have := SR.out.top; rwa [HL.out] at this
    by_cases hlt : i < j
    · obtain ⟨h, hh⟩ : ∃ h, h = (i + j) / 2 := ⟨_, rfl⟩
      have h1 : i ≤ h := by omega
      have h2 : h < j := by omega
      have hhl : h < Z.length := by omega
      obtain ⟨x, hx⟩ : ∃ x, Z[h]? = some x := ⟨_, List.getElem?_eq_getElem hhl⟩
      have HX := Lib.hid (l_at hx)
      obtain ⟨Ax, cx, ex', hx100, rdx⟩ := HP.out.rd (List.mem_of_getElem? hx)
      obtain ⟨g, off, u, eA, _, hgs, hcu, hcell, _⟩ := (Row.of_own HO.out).at_ hhl
      rw [hd_at hx] at hcu
      obtain rfl := Option.some.inj hcu
      subst eA
      have hc0 : wr.cell? ⟨g, off + h, none⟩ = some (.slice Ax (lOf x).length cx) := by rw [hcell, ex']
      have RX := Lib.hid rdx
      have hd := (cmpX_less (lOf x) t).1
      have hcast : ((i : Int) + (j : Int)) / 2 = ((h : Nat) : Int) := by omega
      generalize lOf x = xl at *
      clear hx hh rdx ex' hcell
      go_wp2_with fail
      refine (cmpX_any Ax xl.length cx At t.length ct xl t _ _ _ RX.out HT.out (by omega) (by omega)).mono ?_
      rintro e w1 ⟨rfl, rfl⟩
      generalize cmpX xl t = cz at *
      cases hb : lessX xl t
      · rw [hb] at hd
        have SN := Lib.hid (SR.out.left HA.out h1 h2 HX.out hb)
        clear hb
        go_wp2_with fail
        go_roundw
        case rel => exact ⟨i, h, rfl, rfl, SN.out, by first | rfl | trivial⟩
        case measure => simp [intOf]; omega
      · rw [hb] at hd
        have SN := Lib.hid (SR.out.right HA.out h2 HX.out hb)
        clear hb
        go_wp2_with fail
        go_roundw
        case rel => exact ⟨h + 1, j, by go_num, rfl, SN.out, by first | rfl | trivial⟩
        case measure => simp [intOf]; omega
    · obtain rfl : i = j := by omega
      have PL : Hid (Pt (Z.map lOf) t i) := Lib.hid ⟨SR.out.top, SR.out.lo, SR.out.hi⟩
      by_cases hil : i < Z.length
      · obtain ⟨x, hx⟩ : ∃ x, Z[i]? = some x := ⟨_, List.getElem?_eq_getElem hil⟩
        have HX := Lib.hid (l_at hx)
        obtain ⟨Ax, cx, ex', hx100, rdx⟩ := HP.out.rd (List.mem_of_getElem? hx)
        obtain ⟨g, off, u, eA, _, hgs, hcu, hcell, _⟩ := (Row.of_own HO.out).at_ hil
        rw [hd_at hx] at hcu
        obtain rfl := Option.some.inj hcu
        subst eA
        have hc0 : wr.cell? ⟨g, off + i, none⟩ = some (.slice Ax (lOf x).length cx) := by rw [hcell, ex']
        have RX := Lib.hid rdx
        have HD : Hid ((cmpX (lOf x) t == 0) = decide ((Z.map lOf)[i]? = some t)) := Lib.hid (by
          rw [HX.out, show (cmpX (lOf x) t == 0) = decide (cmpX (lOf x) t = 0) from rfl]
          have := (cmpX_less (lOf x) t).2
          by_cases e : lOf x = t
          · rw [decide_eq_true (this.2 e), decide_eq_true (by rw [e])]
          · rw [decide_eq_false (fun q => e (this.1 q)), decide_eq_false (fun q => e (Option.some.inj q))])
        generalize lOf x = xl at *
        clear hx rdx ex' hcell SR HX
        go_wp2_with fail
        refine (cmpX_any Ax xl.length cx At t.length ct xl t _ _ _ RX.out HT.out (by omega) (by omega)).mono ?_
        rintro e w1 ⟨rfl, rfl⟩
        generalize cmpX xl t = cz at *
        go_wp2_with fail
        go_ret2
        refine ⟨i, PL.out, ?_, rfl⟩
        rw [← HD.out]
        rfl
      · obtain rfl : i = Z.length := by omega
        have HD : Hid (false = decide ((Z.map lOf)[Z.length]? = some t)) := Lib.hid (by
          rw [List.getElem?_eq_none (by rw [HL.out]; exact Nat.le_refl _)]
          simp)
        clear SR
        go_wp2_with fail
        go_ret2
        refine ⟨Z.length, PL.out, ?_, rfl⟩
        rw [← HD.out]
        rfl
end Go.Proofs.YtpmojmhamgcfmaaGreat.lst

/-
  form of the program: the canonical form of a gluing.
-/
namespace Go.Proofs.YtpmojmhamgcfmaaGreat.orb
open Go.ChangeShapes Go.WideShapes Go.ChangeAt Go.RowKit
open Go.Proofs.YtpmojmhamgcfmaaGreat.mem Go.Proofs.YtpmojmhamgcfmaaGreat.ints Go.Proofs.YtpmojmhamgcfmaaGreat.arr Go.Proofs.YtpmojmhamgcfmaaGreat.pm Go.Proofs.YtpmojmhamgcfmaaGreat.sf Go.Proofs.YtpmojmhamgcfmaaGreat.gl
set_option linter.unusedVariables false
set_option maxRecDepth 100000
/-- The 49 cells of a surface. -/
def gS (s : Sur) (n : Nat) : List Int := gl (ext s.1) (ext s.2) n
theorem gS_len (s : Sur) (n : Nat) : (gS s n).length = 49 := gl_len (ext_len _) (ext_len _) _
set_option maxHeartbeats 4000000 in
theorem form_any (r u : List Int) (n : Nat) (w : World) (hs : Sf n r u) :
    Calls Tryz.prog 48 #[.agg (V (gl (ext r) (ext u) n)).toArray] w fun e w' => e = .returned (.agg (V (gS (cn (r, u)) n)).toArray) ∧ Below w.heap.size w w' := by
  have HS := Lib.hid hs; clear hs
  have HC : Hid (gl (ext (can r u n).1) (ext (can r u n).2) n = gS (cn (r, u)) n) := Lib.hid (by unfold gS cn; rw [HS.out.lr])
  have HL : (gS (cn (r, u)) n).length = 49 := gS_len _ _
  go_enter Tryz.func48, Tryz.ntmps48
  have G49 : (gl (ext r) (ext u) n).length = 49 := gl_len (ext_len _) (ext_len _) _
  go_wp2_with (first | (refine wpList_load_row rfl 62 _ rfl w.heap.size rfl 62 (V (gl (ext r) (ext u) n)).toArray (0, 0) _ ((Arr.new w _ _ rfl).alloc _) Tryz.underlying62 rfl (size49 G49) ?_) | fail)
  generalize hw1 : (w.alloc (.cells (V (gl (ext r) (ext u) n)).toArray 62)).alloc (.cells #[.int .i64 0, .int .i64 0, .int .i64 0, .int .i64 0, .int .i64 0, .int .i64 0, .int .i64 0, .int .i64 0, .int .i64 0, .int .i64 0, .int .i64 0, .int .i64 0, .int .i64 0, .int .i64 0, .int .i64 0, .int .i64 0, .int .i64 0, .int .i64 0, .int .i64 0, .int .i64 0, .int .i64 0, .int .i64 0, .int .i64 0, .int .i64 0, .int .i64 0, .int .i64 0, .int .i64 0, .int .i64 0, .int .i64 0, .int .i64 0, .int .i64 0, .int .i64 0, .int .i64 0, .int .i64 0, .int .i64 0, .int .i64 0, .int .i64 0, .int .i64 0, .int .i64 0, .int .i64 0, .int .i64 0, .int .i64 0, .int .i64 0, .int .i64 0, .int .i64 0, .int .i64 0, .int .i64 0, .int .i64 0, .int .i64 0] 62) = w1
  have A1 : Hid (Arr w1 (w.heap.size + 1) (V zero49) 62) := Lib.hid (by rw [← hw1]; exact Arr.new _ (V zero49) _ (by simp))
  have B1 : Hid (Below w.heap.size w w1) := Lib.hid (by rw [← hw1]; exact ((Below.refl _ _).alloc (Nat.le_refl _) _).alloc (by simp) _)
  have s1 : w1.heap.size = w.heap.size + 2 := by rw [← hw1]; simp
  clear hw1
  refine (canon_any r u n _ HS.out).mono ?_
  rintro e w3 ⟨B, D, mm, rfl, _, _, b1⟩
  rw [HC.out]
  replace A1 := Lib.hid (A1.out.keep b1 A1.out.lt)
  replace B1 := Lib.hid (B1.out.trans (b1.mono B1.out.size))
  have hs3 := b1.size
  clear b1
  generalize hLL : gS (cn (r, u)) n = L at *
  go_wp2_with (first | (refine wpList_store_row rfl 62 _ _ rfl w3.heap.size (V (L)).toArray rfl rfl 62 (V zero49).toArray (Arr.new w3 (V zero49) _ rfl) (size49 HL) (by simp [V_len, HL, zero49]) (one_V _) ?_; generalize hw4 : (w3.alloc (.cells #[.int .i64 0, .int .i64 0, .int .i64 0, .int .i64 0, .int .i64 0, .int .i64 0, .int .i64 0, .int .i64 0, .int .i64 0, .int .i64 0, .int .i64 0, .int .i64 0, .int .i64 0, .int .i64 0, .int .i64 0, .int .i64 0, .int .i64 0, .int .i64 0, .int .i64 0, .int .i64 0, .int .i64 0, .int .i64 0, .int .i64 0, .int .i64 0, .int .i64 0, .int .i64 0, .int .i64 0, .int .i64 0, .int .i64 0, .int .i64 0, .int .i64 0, .int .i64 0, .int .i64 0, .int .i64 0, .int .i64 0, .int .i64 0, .int .i64 0, .int .i64 0, .int .i64 0, .int .i64 0, .int .i64 0, .int .i64 0, .int .i64 0, .int .i64 0, .int .i64 0, .int .i64 0, .int .i64 0, .int .i64 0, .int .i64 0] 62)).setRow w3.heap.size (V L).toArray = w4; have A3 : Hid (Arr w4 w3.heap.size (V L) 62) := Lib.hid (by rw [← hw4]; exact (Arr.new w3 (V zero49) _ rfl).row); have b1 : Below w3.heap.size w3 w4 := (by rw [← hw4]; exact arr.below_setRow ((Below.refl _ _).alloc (Nat.le_refl _) _) (Nat.le_refl _) _); have s4 := b1.size; replace A1 := Lib.hid (A1.out.keep b1 A1.out.lt); replace B1 := Lib.hid (B1.out.trans (b1.mono B1.out.size)); clear hw4 b1) | (refine wpList_load_row rfl 62 _ rfl w3.heap.size rfl 62 (V L).toArray (0, 0) _ A3.out Tryz.underlying62 rfl (size49 HL) ?_) | (refine wpList_store_row rfl 62 _ _ rfl (w.heap.size + 1) (V (L)).toArray rfl rfl 62 (V zero49).toArray A1.out (size49 HL) (by simp [V_len, HL, zero49]) (one_V _) ?_) | fail)
  exact bodyPost_ret (v := .agg (V L).toArray) (results_cell_row rfl _ _ (w.heap.size + 1) 62 (V L).toArray (0, 0) _ rfl A1.out.row Tryz.underlying62 rfl (size49 HL)) rfl ⟨by rw [← hLL], below_setRow B1.out (by omega) _⟩
end Go.Proofs.YtpmojmhamgcfmaaGreat.orb

/-
  A fresh surface joins the items.
-/
namespace Go.Proofs.YtpmojmhamgcfmaaGreat.lst
open Go.ChangeShapes Go.WideShapes Go.ChangeAt Go.RowKit
open Go.Proofs.YtpmojmhamgcfmaaGreat.mem Go.Proofs.YtpmojmhamgcfmaaGreat.ints Go.Proofs.YtpmojmhamgcfmaaGreat.arr Go.Proofs.YtpmojmhamgcfmaaGreat.pm Go.Proofs.YtpmojmhamgcfmaaGreat.sf Go.Proofs.YtpmojmhamgcfmaaGreat.orb
set_option linter.unusedVariables false
set_option maxRecDepth 100000

theorem Pk.lt {w : World} {lo hi b : Nat} {ex : Nat → Prop} {Z : List Item} (h : Pk w lo hi ex Z) (hb : b ∈ bsOf Z) : b < hi := by
  unfold bsOf at hb
  obtain ⟨z, hz, q⟩ := List.mem_flatMap.1 hb
  obtain ⟨r1, r2⟩ := h.each z hz
  have e : b = z.1.1 ∨ b = z.1.2 := by simpa using q
  rcases e with rfl | rfl
  · exact r1.hi_
  · exact r2.hi_
theorem Pk.cons {w : World} {lo hi hi' n c m d : Nat} {ex : Nat → Prop} {Z : List Item} {P Q : Option Addr} {s : Sur} (h : Pk w lo hi ex Z) (hx : Svl w hi hi' (.agg #[.slice P n c, .slice Q m d]) s.1 s.2) (hn : 0 < n) (hm : 0 < m)
    (hlo : lo ≤ hi) (hh : hi ≤ hi') (ht : hi' ≤ w.heap.size) (he : ∀ b, hi ≤ b → b < hi' → ¬ ex b) : ∃ zb : Nat × Nat, Pk w lo hi' ex ((zb, (.slice P n c, .slice Q m d), s) :: Z) := by
  obtain ⟨g1, g2, r1, r2, hne⟩ := Svl.two hx hn hm ex he
  refine ⟨(g1, g2), ht, fun z hz => ?_, nd_cons.2 ⟨hne, fun q => ?_, fun q => ?_, h.nd⟩⟩
  · rcases List.mem_cons.1 hz with rfl | q
    · exact ⟨r1.to hlo (Nat.le_refl _) r1.ex_, r2.to hlo (Nat.le_refl _) r2.ex_⟩
    · obtain ⟨a, b⟩ := h.each z q
      exact ⟨a.to (Nat.le_refl _) hh a.ex_, b.to (Nat.le_refl _) hh b.ex_⟩
  · have := h.lt q; have := r1.lo_; dsimp only at *; omega
  · have := h.lt q; have := r2.lo_; dsimp only at *; omega
/-- One pair, on items: what it does to the list. -/
def putZ (n : Nat) (Z : List Item) (zb : Nat × Nat) (hd : Value × Value) (r u : List Int) : List Item := if transB r u then insZ (zb, hd, can r u n) Z else Z
theorem putZ_map (n : Nat) (Z : List Item) (zb : Nat × Nat) (hd : Value × Value) (r u : List Int) : (putZ n Z zb hd r u).map sOf = putP n (Z.map sOf) r u := by
  unfold putZ putP
  by_cases h : transB r u = true
  · rw [if_pos h, if_pos h, insZ_map]; rfl
  · rw [if_neg h, if_neg h]
end Go.Proofs.YtpmojmhamgcfmaaGreat.lst

/-
  The laws' helpers on slices of surfaces: eqSurfaceS, markSurfaceS, heldSurfaceS.
-/
namespace Go.Proofs.YtpmojmhamgcfmaaGreat.orb
open Go.ChangeShapes Go.WideShapes Go.ChangeAt Go.RowKit Go.Joins Go.Deep
open Go.Proofs.YtpmojmhamgcfmaaGreat.mem Go.Proofs.YtpmojmhamgcfmaaGreat.ints Go.Proofs.YtpmojmhamgcfmaaGreat.arr Go.Proofs.YtpmojmhamgcfmaaGreat.pm Go.Proofs.YtpmojmhamgcfmaaGreat.sf Go.Proofs.YtpmojmhamgcfmaaGreat.mat
set_option linter.unusedVariables false
set_option maxRecDepth 100000

/-- The rows of the surfaces, one behind the other. -/
def flat : List Sur → List (List Int)
  | [] => []
  | s :: L => s.1 :: s.2 :: flat L
theorem flat_len (L : List Sur) : (flat L).length = L.length * 2 := by
  induction L with
  | nil => rfl
  | cons s L ih => simp [flat, ih]; omega
theorem flat_even (L : List Sur) : ∀ k : Nat, (flat L)[k * 2]? = (L[k]?).map (·.1) := by
  induction L with
  | nil => intro k; simp [flat]
  | cons s L ih =>
    intro k
    cases k with
    | zero => simp [flat]
    | succ k => have := ih k; rw [show (k + 1) * 2 = k * 2 + 2 by omega]; simp only [flat, List.getElem?_cons_succ]; rw [this]
theorem flat_odd (L : List Sur) : ∀ k : Nat, (flat L)[k * 2 + 1]? = (L[k]?).map (·.2) := by
  induction L with
  | nil => intro k; simp [flat]
  | cons s L ih =>
    intro k
    cases k with
    | zero => simp [flat]
    | succ k => have := ih k; rw [show (k + 1) * 2 + 1 = (k * 2 + 1) + 2 by omega]; simp only [flat, List.getElem?_cons_succ]; rw [this]
theorem flat_at {L : List Sur} {j : Nat} {xs : List Int} (h : (flat L)[j]? = some xs) : ∃ s, L[j / 2]? = some s ∧ xs = (if j % 2 = 0 then s.1 else s.2) := by
  by_cases e : j % 2 = 0
  · rw [show j = j / 2 * 2 by omega, flat_even] at h
    obtain ⟨s, h1, h2⟩ := Option.map_eq_some_iff.1 h
    exact ⟨s, h1, by rw [if_pos e, h2]⟩
  · rw [show j = j / 2 * 2 + 1 by omega, flat_odd] at h
    obtain ⟨s, h1, h2⟩ := Option.map_eq_some_iff.1 h
    exact ⟨s, h1, by rw [if_neg e, h2]⟩
theorem flat_tot {N : Nat} : ∀ {L : List Sur}, (∀ s ∈ L, s.1.length ≤ N ∧ s.2.length ≤ N) → tot (flat L) ≤ 2 * N * L.length
  | [], _ => by simp [flat, tot]
  | s :: L, h => by
    have h1 := flat_tot (L := L) (fun x hx => h x (List.mem_cons_of_mem _ hx))
    obtain ⟨a, b⟩ := h s (by simp)
    have e : tot (flat (s :: L)) = s.1.length + (s.2.length + tot (flat L)) := by simp [flat, tot]
    rw [e, List.length_cons, Nat.mul_add]
    omega
theorem Ls.hs {w : World} {lo hi : Nat} {ex : Nat → Prop} {bl : Nat → Nat × Nat} {hs : List Value} {L : List Sur} (h : Ls w lo hi ex bl hs L) :
    Hs w lo hi ex (fun j => if j % 2 = 0 then (bl (j / 2)).1 else (bl (j / 2)).2) hs (flat L) := by
  refine ⟨by rw [h.len, flat_len], h.top, fun j xs hx => ?_, fun i j xs ys hx hy _ _ hij => ?_⟩
  · obtain ⟨s, h1, h2⟩ := flat_at hx
    obtain ⟨a, b, q1, q2, r1, r2, _⟩ := h.row _ s h1
    by_cases e : j % 2 = 0
    · rw [if_pos e] at h2 ⊢
      subst h2
      obtain ⟨P, c, e1, _, _, rr⟩ := r1.row
      exact ⟨P, c, by rw [show j = j / 2 * 2 by omega, q1, e1], fun _ => ⟨r1.lo_, r1.hi_, r1.ex_, rr⟩⟩
    · rw [if_neg e] at h2 ⊢
      subst h2
      obtain ⟨P, c, e1, _, _, rr⟩ := r2.row
      exact ⟨P, c, by rw [show j = j / 2 * 2 + 1 by omega, q2, e1], fun _ => ⟨r2.lo_, r2.hi_, r2.ex_, rr⟩⟩
  · obtain ⟨s, h1, _⟩ := flat_at hx
    obtain ⟨t, h2, _⟩ := flat_at hy
    have l1 := (List.getElem?_eq_some_iff.1 h1).1
    have l2 := (List.getElem?_eq_some_iff.1 h2).1
    obtain ⟨_, _, _, _, _, _, ne⟩ := h.row _ s h1
    by_cases e : i / 2 = j / 2
    · by_cases e1 : i % 2 = 0 <;> by_cases e2 : j % 2 = 0
      · omega
      · simp only [if_pos e1, if_neg e2]; rw [← e]; exact ne
      · simp only [if_neg e1, if_pos e2]; rw [← e]; exact fun q => ne q.symm
      · omega
    · obtain ⟨n1, n2, n3⟩ := h.ne _ _ l1 l2 e
      obtain ⟨m1, m2, m3⟩ := h.ne _ _ l2 l1 (fun q => e q.symm)
      by_cases e1 : i % 2 = 0 <;> by_cases e2 : j % 2 = 0 <;> simp only [e1, e2, if_true, if_false]
      · exact n1
      · exact n2
      · exact fun q => m2 q.symm
      · exact n3
/-- v has the surfaces L, from base on, nothing shared. -/
def Lo (w : World) (base hi : Nat) (v : Value) (L : List Sur) : Prop :=
  ∃ hs bl, w.ownsRow base 31 2 v L.length hs ∧ Ls w base hi (fun b => v.ownBlock = some b) bl hs L ∧ (∀ b, v.ownBlock = some b → b < hi)
theorem Os.lo {w0 w : World} {base hi : Nat} {v u : Value} {q : LW} (h : Os w0 w base hi v u q) : Lo w base hi v q.1 := by
  obtain ⟨hs, bl, o1, r⟩ := h.ex
  exact ⟨hs, bl, o1, r.to (Nat.le_refl _) (Nat.le_refl _) r.top (fun b _ _ e e' => e (.inl e')), h.vlt⟩
theorem Lo.nil (w : World) (base hi : Nat) (h : hi ≤ w.heap.size) : Lo w base hi (.slice none 0 0) [] :=
  ⟨[], fun _ => (0, 0), ⟨rfl, .inl ⟨rfl, rfl⟩⟩, Ls.nil _ _ _ _ _ h, fun b e => by simp [Value.ownBlock] at e⟩
theorem Lo.form {w : World} {base hi : Nat} {v : Value} {L : List Sur} (h : Lo w base hi v L) : ∃ A c, v = .slice A L.length c := by
  obtain ⟨hs, bl, o1, _⟩ := h
  exact mem.own_form o1
theorem Lo.top {w : World} {base hi : Nat} {v : Value} {L : List Sur} (h : Lo w base hi v L) : hi ≤ w.heap.size := by
  obtain ⟨hs, bl, o1, r, _⟩ := h
  exact r.top
theorem Lo.keep {w w' : World} {base hi B : Nat} {v : Value} {L : List Sur} (h : Lo w base hi v L) (hb : Below B w w') (hB : hi ≤ B) : Lo w' base hi v L := by
  obtain ⟨hs, bl, o1, r, vl⟩ := h
  exact ⟨hs, bl, own_block_keep o1 (fun b e => hb.block b (Nat.lt_of_lt_of_le (vl b e) hB)), r.keep hb.size (fun b _ q2 _ => hb.block b (by omega)), vl⟩
theorem Lo.out {w w' : World} {base hi lo' hi' : Nat} {v : Value} {L : List Sur} (h : Lo w base hi v L) (ho : Out lo' hi' w w') (hd : hi ≤ lo' ∨ hi' ≤ base) : Lo w' base hi v L := by
  obtain ⟨hs, bl, o1, r, vl⟩ := h
  have t := r.top
  exact ⟨hs, bl, own_block_keep o1 (fun b e => ho.block b (by have := vl b e; omega) (by have := vl b e; have := (o1.lt b e).1; omega)), r.keep ho.size (fun b q1 q2 _ => ho.block b (by omega) (by omega)), vl⟩
theorem Lo.lrd {w : World} {base hi c : Nat} {A : Option Addr} {L : List Sur} (h : Lo w base hi (.slice A L.length c) L) : Lrd w w.heap.size (.slice A L.length c) L := by
  obtain ⟨hs, bl, o1, r, _⟩ := h
  exact (r.to (Nat.le_refl _) r.top (Nat.le_refl _) (fun _ _ _ q => q)).lrd o1
theorem Lo.mat {w : World} {base hi c : Nat} {A : Option Addr} {L : List Sur} (h : Lo w base hi (.slice A L.length c) L) : Mat w base hi A (L.length * 2) (flat L) := by
  obtain ⟨hs, bl, o1, r, vl⟩ := h
  refine ⟨flat_len L, r.top, ?_⟩
  rcases o1.2 with ⟨e, e0⟩ | ⟨g, cap, cur, e, hb, hh, hc, hm, hz, ht⟩
  · obtain rfl := List.eq_nil_of_length_eq_zero e0
    obtain rfl : hs = [] := List.eq_nil_of_length_eq_zero (by simpa using r.len)
    exact ⟨[], fun _ => 0, 0, Hs.nil _ _ _ _ _ r.top, fun q => by simp at q⟩
  · injection e with e1 e2 e3
    subst e1; subst e3
    have hl := vl g rfl
    refine ⟨hs, _, g, (r.hs).exs (fun b _ _ q e => q (by rw [e]; rfl)), fun _ => ⟨hb, hl, by rw [r.len], by have := r.top; omega, fun hn => ⟨g, 0, rfl, Nat.le_refl _, by omega, fun j hj => ?_⟩⟩⟩
    have hj' : j < hs.length := by rw [r.len]; exact hj
    have h1 := o1.cells (g := g) rfl j hs[j] (List.getElem?_eq_getElem hj')
    rw [add0] at h1
    refine ⟨by rw [h1, List.getElem?_eq_getElem hj'], ?_⟩
    unfold World.frozen?
    simp [hh]

def eqL (L M : List Sur) : Bool := decide (L = M)
theorem eqL_self (L : List Sur) : eqL L L = true := by simp [eqL]
def SameL (L M : List Sur) (w wr : World) (k : Nat) : Prop := Below w.heap.size w wr ∧ ∀ j, j < k → L[j]? = M[j]?
theorem eqL_no {L M : List Sur} {k : Nat} {s t : Sur} (h1 : L[k]? = some s) (h2 : M[k]? = some t) (h : (eqi s.1 t.1 && eqi s.2 t.2) = false) : eqL L M = false := by
  unfold eqL; rw [decide_eq_false_iff_not]; rintro rfl
  rw [h1] at h2
  obtain rfl := Option.some.inj h2
  simp [eqi] at h
theorem eqL_yes {L M : List Sur} {n : Nat} (h1 : L.length = n) (h2 : M.length = n) (h : ∀ j, j < n → L[j]? = M[j]?) : eqL L M = true := by
  unfold eqL; rw [decide_eq_true_iff]
  refine List.ext_getElem? fun i => ?_
  by_cases hi : i < n
  · exact h i hi
  · rw [List.getElem?_eq_none (by omega), List.getElem?_eq_none (by omega)]
theorem eqL_len {L M : List Sur} (h : L.length ≠ M.length) : eqL L M = false := by
  unfold eqL; rw [decide_eq_false_iff_not]; rintro rfl; exact h rfl
theorem SameL.step {L M : List Sur} {w wr w' : World} {k : Nat} {s t : Sur} (h : SameL L M w wr k) (hb : Below w.heap.size w w') (h1 : L[k]? = some s) (h2 : M[k]? = some t) (he : (eqi s.1 t.1 && eqi s.2 t.2) = true) : SameL L M w w' (k + 1) := by
  refine ⟨hb, fun j hj => ?_⟩
  by_cases e : j = k
  · subst e
    have : s = t := by
      simp [eqi] at he
      exact Prod.ext he.1 he.2
    rw [h1, h2, this]
  · exact h.2 j (by omega)
theorem two_range {w : World} {g o : Nat} {a b : Value} (h0 : w.cell? ⟨g, o, none⟩ = some a) (h1 : w.cell? ⟨g, o + 1, none⟩ = some b) : w.rangeAt g o [a, b] := by
  intro j v hv
  match j, hv with
  | 0, hv => simp at hv; subst hv; simpa using h0
  | 1, hv => simp at hv; subst hv; exact h1

end Go.Proofs.YtpmojmhamgcfmaaGreat.orb
