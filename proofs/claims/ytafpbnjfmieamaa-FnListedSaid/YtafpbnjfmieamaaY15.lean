import Derived.Test.YtafpbnjfmieamaaY14
import Derived.Test.YtafpbnjfmieamaaY10
import Derived.Test.YtafpbnjfmieamaaY12
/-
  Lists of surfaces whose rows lie in blocks of their own, in any order: items (blocks, headers, surface); insertion.
-/
namespace Go.Proofs.Ytafpbnjfmieamaa.lst
open Go.ChangeShapes Go.WideShapes Go.ChangeAt Go.RowKit
open Go.Proofs.Ytafpbnjfmieamaa.mem Go.Proofs.Ytafpbnjfmieamaa.ints Go.Proofs.Ytafpbnjfmieamaa.arr Go.Proofs.Ytafpbnjfmieamaa.pm Go.Proofs.Ytafpbnjfmieamaa.sf Go.Proofs.Ytafpbnjfmieamaa.orb
set_option linter.unusedVariables false
set_option maxRecDepth 100000

/-- The blocks of the two rows, their headers, the surface. -/
abbrev Item := (Nat × Nat) × (Value × Value) × Sur
def sOf (z : Item) : Sur := z.2.2
def bsOf (Z : List Item) : List Nat := Z.flatMap fun z => [z.1.1, z.1.2]
def hsOf (Z : List Item) : List Value := Z.flatMap fun z => [z.2.1.1, z.2.1.2]
structure Pk (w : World) (lo hi : Nat) (ex : Nat → Prop) (Z : List Item) : Prop where
  top : hi ≤ w.heap.size
  each : ∀ z ∈ Z, Rw1 w lo hi ex z.1.1 z.2.1.1 (sOf z).1 ∧ Rw1 w lo hi ex z.1.2 z.2.1.2 (sOf z).2
  nd : (bsOf Z).Nodup
theorem Pk.perm {w : World} {lo hi : Nat} {ex : Nat → Prop} {Z Z' : List Item} (h : Pk w lo hi ex Z) (p : Z.Perm Z') : Pk w lo hi ex Z' :=
  ⟨h.top, fun z hz => h.each z (p.mem_iff.2 hz), (p.flatMap_right _).nodup_iff.1 h.nd⟩
theorem Pk.nil (w : World) (lo hi : Nat) (ex : Nat → Prop) (h : hi ≤ w.heap.size) : Pk w lo hi ex [] := ⟨h, fun z hz => (by simp at hz), List.nodup_nil⟩
theorem Pk.sub {w : World} {lo hi : Nat} {ex : Nat → Prop} {Z Y : List Item} (h : Pk w lo hi ex (Z ++ Y)) : Pk w lo hi ex Z := by
  refine ⟨h.top, fun z hz => h.each z (List.mem_append_left _ hz), ?_⟩
  have := h.nd
  unfold bsOf at this ⊢
  rw [List.flatMap_append] at this
  exact (List.nodup_append.1 this).1
theorem Pk.keep {w w' : World} {lo hi : Nat} {ex : Nat → Prop} {Z : List Item} (h : Pk w lo hi ex Z) (hz : w.heap.size ≤ w'.heap.size) (hk : ∀ b, lo ≤ b → b < hi → ¬ ex b → w'.heap[b]? = w.heap[b]?) : Pk w' lo hi ex Z :=
  ⟨Nat.le_trans h.top hz, fun z q => by
    obtain ⟨a, b⟩ := h.each z q
    exact ⟨a.keep (hk _ a.lo_ a.hi_ a.ex_) hz, b.keep (hk _ b.lo_ b.hi_ b.ex_) hz⟩, h.nd⟩
theorem Pk.to {w : World} {lo hi lo' hi' : Nat} {ex ex' : Nat → Prop} {Z : List Item} (h : Pk w lo hi ex Z) (h1 : lo' ≤ lo) (h2 : hi ≤ hi') (h3 : hi' ≤ w.heap.size)
    (he : ∀ b, lo ≤ b → b < hi → ¬ ex b → ¬ ex' b) : Pk w lo' hi' ex' Z :=
  ⟨h3, fun z q => by
    obtain ⟨a, b⟩ := h.each z q
    exact ⟨a.to h1 h2 (he _ a.lo_ a.hi_ a.ex_), b.to h1 h2 (he _ b.lo_ b.hi_ b.ex_)⟩, h.nd⟩
theorem hs_len : ∀ Z : List Item, (hsOf Z).length = Z.length * 2
  | [] => rfl
  | z :: t => by
    have := hs_len t
    unfold hsOf at this ⊢
    rw [List.flatMap_cons, List.length_append, this, List.length_cons]
    simp; omega
theorem hs_app (Z Y : List Item) : hsOf (Z ++ Y) = hsOf Z ++ hsOf Y := by simp [hsOf]
theorem hs_at : ∀ {Z : List Item} {k : Nat} {z : Item}, Z[k]? = some z → (hsOf Z)[k * 2]? = some z.2.1.1 ∧ (hsOf Z)[k * 2 + 1]? = some z.2.1.2
  | [], k, z, h => by simp at h
  | y :: t, 0, z, h => by
    obtain rfl : y = z := by simpa using h
    simp [hsOf]
  | y :: t, k + 1, z, h => by
    have := hs_at (Z := t) (k := k) (z := z) (by simpa using h)
    unfold hsOf at this ⊢
    rw [List.flatMap_cons, show (k + 1) * 2 = k * 2 + 1 + 1 by omega]
    simpa using this
theorem bs_mem {Z : List Item} {z : Item} (h : z ∈ Z) : z.1.1 ∈ bsOf Z ∧ z.1.2 ∈ bsOf Z := by
  unfold bsOf
  exact ⟨List.mem_flatMap.2 ⟨z, h, by simp⟩, List.mem_flatMap.2 ⟨z, h, by simp⟩⟩
theorem nd_cons {z : Item} {Z : List Item} : (bsOf (z :: Z)).Nodup ↔ z.1.1 ≠ z.1.2 ∧ z.1.1 ∉ bsOf Z ∧ z.1.2 ∉ bsOf Z ∧ (bsOf Z).Nodup := by
  unfold bsOf
  rw [List.flatMap_cons]
  show (z.1.1 :: z.1.2 :: (Z.flatMap fun z => [z.1.1, z.1.2])).Nodup ↔ _
  rw [List.nodup_cons, List.nodup_cons, List.mem_cons, not_or]
  exact ⟨fun ⟨⟨a, b⟩, c, d⟩ => ⟨a, b, c, d⟩, fun ⟨a, b, c, d⟩ => ⟨⟨a, b⟩, c, d⟩⟩
def blk0 (Z : List Item) (k : Nat) : Nat × Nat := (Z[k]?.map fun z => z.1).getD (0, 0)
theorem nd_ne : ∀ {Z : List Item}, (bsOf Z).Nodup → ∀ (i j : Nat) (y z : Item), Z[i]? = some y → Z[j]? = some z → i ≠ j → y.1.1 ≠ z.1.1 ∧ y.1.1 ≠ z.1.2 ∧ y.1.2 ≠ z.1.2
  | [], _, i, j, y, z, h, _, _ => by simp at h
  | x :: t, h, 0, 0, y, z, hy, hz, hn => absurd rfl hn
  | x :: t, h, 0, j + 1, y, z, hy, hz, hn => by
    obtain rfl : x = y := by simpa using hy
    obtain ⟨a, b, c, d⟩ := nd_cons.1 h
    have := bs_mem (List.mem_of_getElem? (show t[j]? = some z by simpa using hz))
    exact ⟨fun e => b (e ▸ this.1), fun e => b (e ▸ this.2), fun e => c (e ▸ this.2)⟩
  | x :: t, h, i + 1, 0, y, z, hy, hz, hn => by
    obtain rfl : x = z := by simpa using hz
    obtain ⟨a, b, c, d⟩ := nd_cons.1 h
    have := bs_mem (List.mem_of_getElem? (show t[i]? = some y by simpa using hy))
    exact ⟨fun e => b (e ▸ this.1), fun e => c (e ▸ this.1), fun e => c (e ▸ this.2)⟩
  | x :: t, h, i + 1, j + 1, y, z, hy, hz, hn => nd_ne (nd_cons.1 h).2.2.2 i j y z (by simpa using hy) (by simpa using hz) (by omega)
/-- Items in memory are a list of surfaces in memory. -/
theorem Pk.ls {w : World} {lo hi : Nat} {ex : Nat → Prop} {Z : List Item} (h : Pk w lo hi ex Z) : Ls w lo hi ex (blk0 Z) (hsOf Z) (Z.map sOf) := by
  refine ⟨by rw [hs_len, List.length_map], h.top, fun k s hk => ?_, fun i j hi hj hij => ?_⟩
  · rw [List.getElem?_map] at hk
    cases hz : Z[k]? with
    | none => rw [hz] at hk; simp at hk
    | some z =>
      rw [hz] at hk
      obtain rfl : sOf z = s := by simpa using hk
      obtain ⟨a, b⟩ := h.each z (List.mem_of_getElem? hz)
      have eb : blk0 Z k = z.1 := by simp [blk0, hz]
      obtain ⟨e1, e2⟩ := hs_at hz
      refine ⟨_, _, e1, e2, by rw [eb]; exact a, by rw [eb]; exact b, ?_⟩
      rw [eb]
      obtain ⟨p, q, e⟩ := List.append_of_mem (List.mem_of_getElem? hz)
      have hp : Z.Perm (z :: (p ++ q)) := by rw [e]; exact List.perm_middle
      exact (nd_cons.1 (h.perm hp).nd).1
  · rw [List.length_map] at hi hj
    have ei := List.getElem?_eq_getElem hi
    have ej := List.getElem?_eq_getElem hj
    have e1 : blk0 Z i = Z[i].1 := by simp [blk0, ei]
    have e2 : blk0 Z j = Z[j].1 := by simp [blk0, ej]
    rw [e1, e2]
    exact nd_ne h.nd i j _ _ ei ej hij
/-- The first i items looked at: what is out, and whether the new one is placed. -/
def insStep (z : Item) (o : List Item × Bool) (x : Item) : List Item × Bool :=
  if !(o.2 || decide (sOf x = sOf z)) && bef (sOf z) (sOf x) then (o.1 ++ [z, x], true) else (o.1 ++ [x], o.2 || decide (sOf x = sOf z))
def insTo (z : Item) (Z : List Item) : List Item × Bool := Z.foldl (insStep z) ([], false)
def insZ (z : Item) (Z : List Item) : List Item := if (insTo z Z).2 then (insTo z Z).1 else (insTo z Z).1 ++ [z]
theorem insTo_snoc (z : Item) (Z : List Item) (x : Item) : insTo z (Z ++ [x]) = insStep z (insTo z Z) x := by simp [insTo]
theorem insTo_next {z : Item} {Z : List Item} {k : Nat} {x : Item} (h : Z[k]? = some x) : insTo z (Z.take (k + 1)) = insStep z (insTo z (Z.take k)) x := by
  rw [List.take_add_one, h]
  exact insTo_snoc _ _ _
theorem ins_fold (z : Item) : ∀ (Z acc : List Item) (d : Bool), (let o := Z.foldl (insStep z) (acc, d); (if o.2 then o.1 else o.1 ++ [z]).map sOf) = acc.map sOf ++ insL (Z.map sOf) (sOf z) d
  | [], acc, d => by cases d <;> simp [insL]
  | x :: t, acc, d => by
    rw [List.foldl_cons]
    show _ = acc.map sOf ++ insL (sOf x :: t.map sOf) (sOf z) d
    rw [insL]
    by_cases h : (!(d || decide (sOf x = sOf z)) && bef (sOf z) (sOf x)) = true
    · have e : insStep z (acc, d) x = (acc ++ [z, x], true) := by simp only [insStep, h, if_true]
      rw [e, ins_fold z t, if_pos h]
      simp
    · have e : insStep z (acc, d) x = (acc ++ [x], d || decide (sOf x = sOf z)) := by
        simp only [insStep]
        rw [if_neg h]
      rw [e, ins_fold z t, if_neg h]
      simp
theorem insZ_map (z : Item) (Z : List Item) : (insZ z Z).map sOf = insL (Z.map sOf) (sOf z) false := by
  exact (ins_fold z Z [] false).trans (List.nil_append _)
/-- What is out so far is what was looked at, and the new one, if it is placed; or it was there. -/
theorem insTo_perm (z : Item) : ∀ (Z acc : List Item) (d : Bool), ∃ Y, ((Z.foldl (insStep z) (acc, d)).1).Perm (Y ++ (acc ++ Z)) ∧ (Y = [] ∨ (Y = [z] ∧ d = false ∧ (Z.foldl (insStep z) (acc, d)).2 = true))
  | [], acc, d => ⟨[], by simp, .inl rfl⟩
  | x :: t, acc, d => by
    rw [List.foldl_cons]
    by_cases h : (!(d || decide (sOf x = sOf z)) && bef (sOf z) (sOf x)) = true
    · have e : insStep z (acc, d) x = (acc ++ [z, x], true) := by simp only [insStep, h, if_true]
      have hd : d = false := by
        cases d
        · rfl
        · simp at h
      rw [e]
      obtain ⟨Y, p, q⟩ := insTo_perm z t (acc ++ [z, x]) true
      rcases q with rfl | ⟨_, q, _⟩
      · refine ⟨[z], ?_, .inr ⟨rfl, hd, ?_⟩⟩
        · refine p.trans ?_
          rw [List.nil_append, List.append_assoc]
          show (acc ++ z :: x :: t).Perm (z :: (acc ++ x :: t))
          exact List.perm_middle
        · exact ins_done z t _
      · cases q
    · have e : insStep z (acc, d) x = (acc ++ [x], d || decide (sOf x = sOf z)) := by
        simp only [insStep]
        rw [if_neg h]
      rw [e]
      obtain ⟨Y, p, q⟩ := insTo_perm z t (acc ++ [x]) (d || decide (sOf x = sOf z))
      refine ⟨Y, by rw [List.append_assoc] at p; exact p, ?_⟩
      rcases q with rfl | ⟨q1, q2, q3⟩
      · exact .inl rfl
      · refine .inr ⟨q1, ?_, q3⟩
        cases d
        · rfl
        · simp at q2
where ins_done (z : Item) : ∀ (Z acc : List Item), (Z.foldl (insStep z) (acc, true)).2 = true
  | [], acc => rfl
  | x :: t, acc => by
    rw [List.foldl_cons]
    have e : insStep z (acc, true) x = (acc ++ [x], true) := by simp [insStep]
    rw [e]
    exact ins_done z t _
theorem insZ_perm (z : Item) (Z : List Item) : (insZ z Z).Perm Z ∨ (insZ z Z).Perm (z :: Z) := by
  obtain ⟨Y, p, q⟩ := insTo_perm z Z [] false
  unfold insZ insTo
  rcases q with rfl | ⟨rfl, _, q3⟩
  · split
    · exact .inl (by simpa using p)
    · refine .inr ?_
      refine (p.append_right [z]).trans ?_
      simp only [List.nil_append]
      exact List.perm_append_comm
  · rw [if_pos q3]
    exact .inr (by simpa using p)
/-- The new list's items are in memory, if the old and the new one are. -/
theorem Pk.ins {w : World} {lo hi : Nat} {ex : Nat → Prop} {Z : List Item} {z : Item} (h : Pk w lo hi ex (z :: Z)) : Pk w lo hi ex (insZ z Z) := by
  rcases insZ_perm z Z with p | p
  · have hz : Pk w lo hi ex Z := by
      have := h.perm (show (z :: Z).Perm (Z ++ [z]) from (List.perm_append_comm (l₁ := [z]) (l₂ := Z)))
      exact this.sub
    exact hz.perm p.symm
  · exact h.perm p.symm
end Go.Proofs.Ytafpbnjfmieamaa.lst

/-
  RenameSurface, of the model and of the program.
-/
namespace Go.Proofs.Ytafpbnjfmieamaa.gl
open Go.ChangeShapes Go.WideShapes Go.ChangeAt Go.RowKit
open Go.Proofs.Ytafpbnjfmieamaa.mem Go.Proofs.Ytafpbnjfmieamaa.ints Go.Proofs.Ytafpbnjfmieamaa.arr Go.Proofs.Ytafpbnjfmieamaa.pm Go.Proofs.Ytafpbnjfmieamaa.permOk Go.Proofs.Ytafpbnjfmieamaa.permOf Go.Proofs.Ytafpbnjfmieamaa.inv Go.Proofs.Ytafpbnjfmieamaa.fns Go.Proofs.Ytafpbnjfmieamaa.sf
set_option linter.unusedVariables false
set_option maxRecDepth 100000

/-- A surface and a bool. -/
def SB (r u : List Int) (b : Bool) (w : World) (e : Ending) (w' : World) : Prop := ∃ g, e = .returned (.tuple #[g, .bool b]) ∧ Svl w' w.heap.size w'.heap.size g r u ∧ Below w.heap.size w w'
theorem built2 : Try.prog.built 33 [] = some #[.slice none 0 0, .slice none 0 0] := by kernel_rfl
theorem sb_nil {w w1 : World} {b : Bool} {r u : List Int} (hr : r = []) (hu : u = []) (hb : b = false) (h : Below w.heap.size w w1) : SB r u b w (.returned (.tuple #[.agg #[.slice none 0 0, .slice none 0 0], .bool false])) w1 := by
  subst hr; subst hu; subst hb
  exact ⟨_, rfl, Svl.nil _ _ _ (Nat.le_refl _) h.size, h⟩
theorem Svl.row {w : World} {lo hi g : Nat} {v : Value} {r u : List Int} (h : Svl w lo hi v r u) (hg : g < lo) (cs : Array Value) : Svl (w.setRow g cs) lo hi v r u :=
  h.out ((Out.refl 0 (g + 1) w).row_ (Nat.zero_le _) (Nat.lt_succ_self _) cs) (.inr (by omega))
def rsB (r u ns : List Int) : Bool := transB r u && okB ns && decide (ns.length = r.length)
def rsR (r u ns : List Int) : List Int := if rsB r u ns then renTo r.length r ns r.length else []
def rsU (r u ns : List Int) : List Int := if rsB r u ns then renTo r.length u ns r.length else []
theorem rsB_iff {r u ns : List Int} : rsB r u ns = true ↔ transB r u = true ∧ okB ns = true ∧ ns.length = r.length := by simp [rsB, and_assoc]
theorem rs_no {r u ns : List Int} (h : ¬ (transB r u = true ∧ okB ns = true ∧ ns.length = r.length)) : rsR r u ns = [] ∧ rsU r u ns = [] ∧ rsB r u ns = false := by
  have : rsB r u ns = false := by rw [← Bool.not_eq_true, rsB_iff]; exact h
  simp [rsR, rsU, this]
theorem rs_yes {r u ns : List Int} (h : transB r u = true) (h2 : okB ns = true) (h3 : ns.length = r.length) : rsR r u ns = renTo r.length r ns r.length ∧ rsU r u ns = renTo r.length u ns r.length ∧ rsB r u ns = true := by
  have : rsB r u ns = true := rsB_iff.2 ⟨h, h2, h3⟩
  simp [rsR, rsU, this]
theorem rsR_len (r u ns : List Int) : (rsR r u ns).length ≤ 1048576 := by
  unfold rsR; split
  · rename_i h; have := (transB_iff.1 (rsB_iff.1 h).1).r.len; rw [renTo_len]; omega
  · simp
theorem rsU_len (r u ns : List Int) : (rsU r u ns).length ≤ 1048576 := by
  unfold rsU; split
  · rename_i h; have := (transB_iff.1 (rsB_iff.1 h).1).r.len; rw [renTo_len]; omega
  · simp

end Go.Proofs.Ytafpbnjfmieamaa.gl

/-
  RenameSurface of the program.
-/
namespace Go.Proofs.Ytafpbnjfmieamaa.gl
open Go.ChangeShapes Go.WideShapes Go.ChangeAt Go.RowKit
open Go.Proofs.Ytafpbnjfmieamaa.mem Go.Proofs.Ytafpbnjfmieamaa.ints Go.Proofs.Ytafpbnjfmieamaa.arr Go.Proofs.Ytafpbnjfmieamaa.pm Go.Proofs.Ytafpbnjfmieamaa.permOk Go.Proofs.Ytafpbnjfmieamaa.permOf Go.Proofs.Ytafpbnjfmieamaa.inv Go.Proofs.Ytafpbnjfmieamaa.fns Go.Proofs.Ytafpbnjfmieamaa.sf
set_option linter.unusedVariables false
set_option maxRecDepth 100000

theorem take_ren24 {n : Nat} {xs ys : List Int} (h : Ok xs) (h' : Ok ys) (lx : xs.length = n) (ly : ys.length = n) : (ren24 (ext xs) (ext ys)).take n = renTo n xs ys n := by
  rw [ren24_ext h h' lx ly]
  have e := ext_take (renTo n xs ys n) (by rw [renTo_len]; have := h.len; omega)
  rwa [renTo_len] at e

end Go.Proofs.Ytafpbnjfmieamaa.gl

/-
  CanonOf, CountSymmetries and AreIsomorphic of the program.
-/
namespace Go.Proofs.Ytafpbnjfmieamaa.gl
open Go.ChangeShapes Go.WideShapes Go.ChangeAt Go.RowKit
open Go.Proofs.Ytafpbnjfmieamaa.mem Go.Proofs.Ytafpbnjfmieamaa.ints Go.Proofs.Ytafpbnjfmieamaa.arr Go.Proofs.Ytafpbnjfmieamaa.pm Go.Proofs.Ytafpbnjfmieamaa.permOk Go.Proofs.Ytafpbnjfmieamaa.permOf Go.Proofs.Ytafpbnjfmieamaa.inv Go.Proofs.Ytafpbnjfmieamaa.fns Go.Proofs.Ytafpbnjfmieamaa.sf
set_option linter.unusedVariables false
set_option maxRecDepth 100000

/-- What CanonOf gives. -/
def cfR (r u : List Int) : List Int := if transB r u then (can r u r.length).1 else []
def cfU (r u : List Int) : List Int := if transB r u then (can r u r.length).2 else []
theorem can_len (r u : List Int) {n : Nat} (h : 0 < n) : (can r u n).1.length = n ∧ (can r u n).2.length = n := by
  obtain ⟨j, hj, e⟩ := can_is (R := r) (U := u) h
  rw [e]; exact Fm_len _ _ _ _
theorem cf_yes {r u : List Int} (h : transB r u = true) : cfR r u = (can r u r.length).1 ∧ cfU r u = (can r u r.length).2 := by simp [cfR, cfU, h]
theorem cf_no {r u : List Int} (h : transB r u = false) : cfR r u = [] ∧ cfU r u = [] := by simp [cfR, cfU, h]
theorem cfR_len (r u : List Int) : (cfR r u).length ≤ 1048576 := by
  unfold cfR; split
  · rename_i h; have s := transB_iff.1 h; rw [(can_len r u s.pos).1]; have := s.r.len; omega
  · simp
theorem cfU_len (r u : List Int) : (cfU r u).length ≤ 1048576 := by
  unfold cfU; split
  · rename_i h; have s := transB_iff.1 h; rw [(can_len r u s.pos).2]; have := s.r.len; omega
  · simp
def csF (r u : List Int) : Int := if transB r u then (sym r u r.length : Int) else 0
theorem cs_yes {r u : List Int} (h : transB r u = true) : csF r u = (sym r u r.length : Int) := by simp [csF, h]
theorem cs_no {r u : List Int} (h : transB r u = false) : csF r u = 0 := by simp [csF, h]

set_option maxHeartbeats 1000000 in
theorem cf_impl (v : Value) (r u : List Int) (hi : Nat) (w : World) (hx : Srd w hi v r u) (hn : r.length ≤ 1048576) (hm : u.length ≤ 1048576) :
    Calls Try.prog 12 #[v] w fun e w' => ∃ g, e = .returned (.tuple #[g, .bool (transB r u)]) ∧ Svl w' w.heap.size w'.heap.size g (cfR r u) (cfU r u) ∧ Below w.heap.size w w' := by
  have HX := Lib.hid hx
  obtain ⟨P, n, c, Q, m, d, rfl, q1, q2, e1, e2, ht, HR⟩ := hx.open
  have L1 := Lib.hid q1
  clear hx
  have N0 := Lib.hid (fun o => Arr.new (w.alloc o) [.slice none 0 0, .slice none 0 0] 33 (g := w.heap.size + 1) (by simp))
  go_enter Try.func12, Try.ntmps12
  go_wp2_with fail
  refine (gluingOf_any _ r u hi _ (HX.out.keep (((Below.refl hi w).alloc ht _).alloc (by simp; omega) _) (Nat.le_refl _)) hn hm).mono ?_
  rintro e w1 ⟨rfl, b1⟩
  have A1 := Lib.hid ((N0.out _).keep b1 (by simp))
  have hs1 : w.heap.size + 2 ≤ w1.heap.size := by have := b1.size; simpa using this
  have B1 : Hid (Below w.heap.size w w1) := Lib.hid ((((Below.refl _ _).alloc (Nat.le_refl _) _).alloc (by simp) _).trans (b1.mono (by simp <;> omega))); clear b1 N0
  cases hq : transB r u
  · obtain ⟨z1, z2⟩ := cf_no hq
    have Z1 := Lib.hid z1; have Z2 := Lib.hid z2; have HQ := Lib.hid hq; clear z1 z2
    go_wp2_with (first | (refine wpList_store_row rfl 62 _ _ rfl w1.heap.size (V (glv r u)).toArray rfl rfl 62 (V zero49).toArray (Arr.new w1 (V zero49) _ rfl) (size49 (glv_len _ _)) (by simp [V_len, glv_len, zero49]) (one_V _) ?_; generalize hw2 : (w1.alloc (.cells #[.int .i64 0, .int .i64 0, .int .i64 0, .int .i64 0, .int .i64 0, .int .i64 0, .int .i64 0, .int .i64 0, .int .i64 0, .int .i64 0, .int .i64 0, .int .i64 0, .int .i64 0, .int .i64 0, .int .i64 0, .int .i64 0, .int .i64 0, .int .i64 0, .int .i64 0, .int .i64 0, .int .i64 0, .int .i64 0, .int .i64 0, .int .i64 0, .int .i64 0, .int .i64 0, .int .i64 0, .int .i64 0, .int .i64 0, .int .i64 0, .int .i64 0, .int .i64 0, .int .i64 0, .int .i64 0, .int .i64 0, .int .i64 0, .int .i64 0, .int .i64 0, .int .i64 0, .int .i64 0, .int .i64 0, .int .i64 0, .int .i64 0, .int .i64 0, .int .i64 0, .int .i64 0, .int .i64 0, .int .i64 0, .int .i64 0] 62)).setRow w1.heap.size (V (glv r u)).toArray = w2; have A2 : Hid (Arr w2 w1.heap.size (V (glv r u)) 62) := Lib.hid (by rw [← hw2]; exact (Arr.new w1 (V zero49) _ rfl).row); have b1 : Below w1.heap.size w1 w2 := (by rw [← hw2]; exact arr.below_setRow ((Below.refl _ _).alloc (Nat.le_refl _) _) (Nat.le_refl _) _); have s2 := b1.size; replace A1 := Lib.hid (A1.out.keep b1 A1.out.lt); replace B1 : Hid (Below w.heap.size w w2) := Lib.hid (B1.out.trans (b1.mono B1.out.size)); clear hw2 b1) | (refine wpList_build rfl 33 _ rfl [] rfl _ built2 ?_) | (refine wpList_store_row rfl 33 _ _ rfl (w.heap.size + 1) #[.slice none 0 0, .slice none 0 0] rfl rfl 33 #[.slice none 0 0, .slice none 0 0] A1.out size2 rfl (by simp [Value.oneCell']) ?_))
    exact bodyPost_ret (v := .tuple #[.agg #[.slice none 0 0, .slice none 0 0], .bool false]) (permOf.results_cell_tmp rfl _ _ (w.heap.size + 1) 33 #[.slice none 0 0, .slice none 0 0] (0, 0) _ _ rfl rfl A1.out.row Try.underlying33 rfl size2) rfl (sb_nil Z1.out Z2.out HQ.out (below_setRow B1.out (by omega) _))
  · obtain ⟨z1, z2⟩ := cf_yes hq
    rw [L1.out] at z1 z2
    have Z1 := Lib.hid z1; have Z2 := Lib.hid z2; have HQ := Lib.hid hq; clear z1 z2
    have HS : Hid (Sf n r u) := Lib.hid (by have := transB_iff.1 hq; rwa [L1.out] at this)
    have HG : Hid (glv r u = gl (ext r) (ext u) n) := Lib.hid (by rw [glv_yes hq, L1.out])
    have hn24 : n ≤ 24 := by have := HS.out.r.len; rwa [L1.out] at this
    have CL := Lib.hid (can_len r u HS.out.pos)
    clear hq
    go_wp2_with (first | (refine wpList_store_row rfl 62 _ _ rfl w1.heap.size (V (glv r u)).toArray rfl rfl 62 (V zero49).toArray (Arr.new w1 (V zero49) _ rfl) (size49 (glv_len _ _)) (by simp [V_len, glv_len, zero49]) (one_V _) ?_; generalize hw2 : (w1.alloc (.cells #[.int .i64 0, .int .i64 0, .int .i64 0, .int .i64 0, .int .i64 0, .int .i64 0, .int .i64 0, .int .i64 0, .int .i64 0, .int .i64 0, .int .i64 0, .int .i64 0, .int .i64 0, .int .i64 0, .int .i64 0, .int .i64 0, .int .i64 0, .int .i64 0, .int .i64 0, .int .i64 0, .int .i64 0, .int .i64 0, .int .i64 0, .int .i64 0, .int .i64 0, .int .i64 0, .int .i64 0, .int .i64 0, .int .i64 0, .int .i64 0, .int .i64 0, .int .i64 0, .int .i64 0, .int .i64 0, .int .i64 0, .int .i64 0, .int .i64 0, .int .i64 0, .int .i64 0, .int .i64 0, .int .i64 0, .int .i64 0, .int .i64 0, .int .i64 0, .int .i64 0, .int .i64 0, .int .i64 0, .int .i64 0, .int .i64 0] 62)).setRow w1.heap.size (V (glv r u)).toArray = w2; have A2 : Hid (Arr w2 w1.heap.size (V (glv r u)) 62) := Lib.hid (by rw [← hw2]; exact (Arr.new w1 (V zero49) _ rfl).row); have b1 : Below w1.heap.size w1 w2 := (by rw [← hw2]; exact arr.below_setRow ((Below.refl _ _).alloc (Nat.le_refl _) _) (Nat.le_refl _) _); have s2 := b1.size; replace A1 := Lib.hid (A1.out.keep b1 A1.out.lt); replace B1 : Hid (Below w.heap.size w w2) := Lib.hid (B1.out.trans (b1.mono B1.out.size)); clear hw2 b1; rw [HG.out] at A2) | (refine wpList_load_row rfl 62 _ rfl w1.heap.size rfl 62 (V (gl (ext r) (ext u) n)).toArray (0, 0) _ A2.out Try.underlying62 rfl (size49 (gl_len (ext_len _) (ext_len _) _)) ?_) | fail)
    refine (canon_any r u n _ HS.out).mono ?_
    rintro e w3 ⟨B, D, mm, rfl, _, _, b1⟩
    replace A1 := Lib.hid (A1.out.keep b1 A1.out.lt)
    replace B1 := Lib.hid (B1.out.trans (b1.mono B1.out.size))
    have hs3 := b1.size
    clear b1 A2
    go_wp2_with (first | (refine wpList_store_row rfl 62 _ _ rfl w3.heap.size (V (cn r u n)).toArray rfl rfl 62 (V zero49).toArray (Arr.new w3 (V zero49) _ rfl) (size49 (cn_len _ _ _)) (by simp [V_len, cn_len, zero49]) (one_V _) ?_; generalize hw4 : (w3.alloc (.cells #[.int .i64 0, .int .i64 0, .int .i64 0, .int .i64 0, .int .i64 0, .int .i64 0, .int .i64 0, .int .i64 0, .int .i64 0, .int .i64 0, .int .i64 0, .int .i64 0, .int .i64 0, .int .i64 0, .int .i64 0, .int .i64 0, .int .i64 0, .int .i64 0, .int .i64 0, .int .i64 0, .int .i64 0, .int .i64 0, .int .i64 0, .int .i64 0, .int .i64 0, .int .i64 0, .int .i64 0, .int .i64 0, .int .i64 0, .int .i64 0, .int .i64 0, .int .i64 0, .int .i64 0, .int .i64 0, .int .i64 0, .int .i64 0, .int .i64 0, .int .i64 0, .int .i64 0, .int .i64 0, .int .i64 0, .int .i64 0, .int .i64 0, .int .i64 0, .int .i64 0, .int .i64 0, .int .i64 0, .int .i64 0, .int .i64 0] 62)).setRow w3.heap.size (V (cn r u n)).toArray = w4; have A3 : Hid (Arr w4 w3.heap.size (V (cn r u n)) 62) := Lib.hid (by rw [← hw4]; exact (Arr.new w3 (V zero49) _ rfl).row); have b1 : Below w3.heap.size w3 w4 := (by rw [← hw4]; exact arr.below_setRow ((Below.refl _ _).alloc (Nat.le_refl _) _) (Nat.le_refl _) _); have s4 := b1.size; replace A1 := Lib.hid (A1.out.keep b1 A1.out.lt); replace B1 := Lib.hid (B1.out.trans (b1.mono B1.out.size)); clear hw4 b1) | (refine wpList_load_row rfl 62 _ rfl w3.heap.size rfl 62 (V (cn r u n)).toArray (0, 0) _ A3.out Try.underlying62 rfl (size49 (cn_len _ _ _)) ?_) | fail)
    refine (surface_any (ext (can r u n).1) (ext (can r u n).2) n _ (ext_len _) (ext_len _) hn24).mono ?_
    rintro e w6 ⟨g, rfl, sg, b1⟩
    have t1 : (ext (can r u n).1).take n = (can r u n).1 := by have := ext_take (can r u n).1 (by rw [CL.out.1]; exact hn24); rwa [CL.out.1] at this
    have t2 : (ext (can r u n).2).take n = (can r u n).2 := by have := ext_take (can r u n).2 (by rw [CL.out.2]; exact hn24); rwa [CL.out.2] at this
    rw [t1, t2] at sg
    obtain ⟨P3, c3, Q3, d3, rfl⟩ := sg.lens CL.out.1 CL.out.2
    have hs6 := b1.size
    replace A1 := Lib.hid (A1.out.keep b1 A1.out.lt)
    replace B1 := Lib.hid (B1.out.trans (b1.mono B1.out.size))
    have SG := Lib.hid sg
    clear b1 sg t1 t2
    go_wp2_with (refine wpList_store_row rfl 33 _ _ rfl (w.heap.size + 1) #[.slice P3 n c3, .slice Q3 n d3] rfl rfl 33 #[.slice none 0 0, .slice none 0 0] A1.out size2 rfl (by simp [Value.oneCell']) ?_)
    exact bodyPost_ret (v := .tuple #[.agg #[.slice P3 n c3, .slice Q3 n d3], .bool true]) (permOf.results_cell_tmp rfl _ _ (w.heap.size + 1) 33 #[.slice P3 n c3, .slice Q3 n d3] (0, 0) _ _ rfl rfl A1.out.row Try.underlying33 rfl size2) rfl (by
      rw [Z1.out, Z2.out, HQ.out]
      have := Svl.row SG.out (g := w.heap.size + 1) (by omega) #[.slice P3 n c3, .slice Q3 n d3]
      exact ⟨_, rfl, (by simpa using this.later (by omega)), below_setRow B1.out (by omega) _⟩)

end Go.Proofs.Ytafpbnjfmieamaa.gl
