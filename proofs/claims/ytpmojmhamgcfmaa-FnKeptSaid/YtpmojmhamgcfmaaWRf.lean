/-
  A loop over an iterator whose values are new slices of ints: the iterator's word, the loop's law; laws of the plain walk in a round.
-/
import Derived.RangeFuncNested
import Derived.RangeFuncBound
import Derived.RangeFuncCalls
import Derived.RangeFuncLeaves
import Derived.OwnWalkIn
import Derived.TacticsInMore
import Derived.LoopNIn
import Derived.LoopIn
import Derived.Test.YtpmojmhamgcfmaaY11
namespace Go.Proofs.Ytpmojmhamgcfmaa.rf
open Go.ChangeShapes Go.WideShapes Go.ChangeAt Go.RowKit
open Go.Proofs.Ytpmojmhamgcfmaa.mem Go.Proofs.Ytpmojmhamgcfmaa.ints Go.Proofs.Ytpmojmhamgcfmaa.arr
set_option linter.unusedVariables false
set_option maxRecDepth 100000

theorem callsIn_any {P : Program} {f : FuncId} {args : Array Value} {w : World} {R : Ending → World → Prop} (n l : Nat) (h : Calls P f args w R) : CallsIn (Fence.wide.inRound l) n P f args w R := CallsIn.inRound l (callsIn_wide.2 h)
theorem rowsIn_any {P : Program} {row : String} {args : Array Value} {w : World} {R : Value → World → Prop} (n : Nat) (h : Rows P row args w R) : RowsIn Fence.wide n P row args w R :=
  fun c cs _ => let ⟨v, w', r, s⟩ := h c cs; ⟨v, w', r, stepsIn_wide.2 s⟩
/-- At the fence that asks nothing an operation that is no defer is walked in a round as everywhere. -/
theorem wpIn_of_wp {P : Program} {o : Oper} {a : Act} {w : World} {next : Act → World → Prop} {Q : Exit → Act → World → Prop} (n l : Nat) (hd : ∀ c, o.op ≠ .defer c) (h : o.wp P a w next Q) : o.wpIn (Fence.wide.inRound l) n P a w next Q := by
  unfold Oper.wpIn
  refine ⟨fun _ _ => trivial, ?_⟩
  have e : o.semAt (Fence.wide.inRound l).round a.eval = execOp a.eval o := Oper.semAt_some l _ _ hd
  rw [e]
  unfold Oper.wp at h
  generalize (execOp a.eval o).run P w = r at *
  cases r with
  | halt hh w' => cases hh <;> first | exact h | exact h.elim
  | ok nx w' =>
    cases nx with
    | value v => exact h
    | skip => exact h
    | defer d => exact h
    | enter f args => exact ⟨(fun q => by cases q), (callsIn_any _ l h).mono fun e w'' q => by cases e <;> exact q⟩
    | row row args => exact ⟨(fun q => by cases q), rowsIn_any _ h⟩
    | _ => exact h.elim
theorem wpIn_of_wp0 {P : Program} {o : Oper} {a : Act} {w : World} {next : Act → World → Prop} {Q : Exit → Act → World → Prop} (n : Nat) (h : o.wp P a w next Q) : o.wpIn Fence.wide n P a w next Q := by
  unfold Oper.wpIn
  refine ⟨fun _ _ => trivial, ?_⟩
  have e : o.semAt Fence.wide.round a.eval = execOp a.eval o := by simp [Oper.semAt]
  rw [e]
  unfold Oper.wp at h
  generalize (execOp a.eval o).run P w = r at *
  cases r with
  | halt hh w' => cases hh <;> first | exact h | exact h.elim
  | ok nx w' =>
    cases nx with
    | value v => exact h
    | skip => exact h
    | defer d => exact h
    | enter f args => exact ⟨(fun q => by cases q), (callsIn_wide.2 h).mono fun e w'' q => by cases e <;> exact q⟩
    | row row args => exact ⟨(fun q => by cases q), rowsIn_any _ h⟩
    | _ => exact h.elim
section
variable {P : Program} {ops : Array Oper} {rest : List Oper} {o : Oper} {a : Act} {w : World} {Q : Exit → Act → World → Prop} {n : Nat}
theorem in_load_row (hgd : o.guard = none) (ty : TypeId) (x : Operand) (ho : o.op = .load ty x)
    (g : Nat) (hx : a.eval x = .pointer (some ⟨g, 0, none⟩)) (t : TypeId) (cs : Array Value) (fr : Nat × Nat) (d : TypeDesc) (hg : w.heap[g]? = some (.cells cs t fr))
    (hu : P.underlying ty = some d) (hd : (match d with | .struct _ | .array _ _ => true | _ => false) = true) (hi : (P.info? ty).map (·.size) = some cs.size)
    (h : wpListIn Fence.wide n P ops Q rest (a.put o.dst (.agg cs)) w) : wpListIn Fence.wide n P ops Q (o :: rest) a w :=
  wpListIn_plain hgd fun _ hK => wpIn_of_wp0 n (wp_load_row ty x ho g hx t cs fr d hg hu hd hi (hK _ _ h))
theorem in_store_row (hgd : o.guard = none) (ty : TypeId) (x y : Operand) (ho : o.op = .store ty x y)
    (g : Nat) (cells : Array Value) (hx : a.eval x = .pointer (some ⟨g, 0, none⟩)) (hy : a.eval y = .agg cells)
    (t : TypeId) (old : Array Value) (hg : w.heap[g]? = some (.cells old t (0, 0))) (hi : (P.info? ty).map (·.size) = some cells.size)
    (hold : old.size = cells.size) (h1 : cells.all (·.oneCell') = true)
    (h : wpListIn Fence.wide n P ops Q rest (a.put o.dst undef) (w.setRow g cells)) : wpListIn Fence.wide n P ops Q (o :: rest) a w :=
  wpListIn_plain hgd fun _ hK => wpIn_of_wp0 n (wp_store_row ty x y ho g cells hx hy t old hg hi hold h1 (hK _ _ h))
end

/-- A row of ints and the slice value that reads as it. -/
abbrev Rw := List Int × Value
/-- The blocks from D on and below D1, and block bg, are as they were. -/
structure Kept (D D1 bg : Nat) (W W' : World) : Prop where
  size : W.heap.size ≤ W'.heap.size
  box : W'.heap[bg]? = W.heap[bg]?
  mid : ∀ k, D ≤ k → k < D1 → W'.heap[k]? = W.heap[k]?
theorem Kept.mono {D D' D1 bg : Nat} {W W' : World} (h : Kept D D1 bg W W') (hd : D ≤ D') : Kept D' D1 bg W W' := ⟨h.size, h.box, fun k a b => h.mid k (by omega) b⟩
def NewRow (W0 W1 : World) (x : Rw) : Prop := W1.ownsRow W0.heap.size 3 1 x.2 x.1.length (V x.1)
theorem NewRow.keep {W0 W1 W2 : World} {x : Rw} (h : NewRow W0 W1 x) (hk : ∀ k, W0.heap.size ≤ k → k < W1.heap.size → W2.heap[k]? = W1.heap[k]?) : NewRow W0 W2 x := by
  refine ⟨h.1, ?_⟩
  rcases h.2 with h0 | ⟨g, cap, cur, q1, q2, q3, q4⟩
  · exact .inl h0
  · exact .inr ⟨g, cap, cur, q1, q2, (hk g q2 (Array.getElem?_eq_some_iff.1 q3).1).trans q3, q4⟩

/-- The iterator's word: it hands the rows of L to yield, one after another, each new; it keeps what J says; it wants its own blocks kept. -/
def Seq (P : Program) (gf : Nat) (lb : Array Value) (bg : Nat) (L : List (List Int)) (w : World) : Prop :=
  ∀ (n m l : Nat) (W : World) (J Jx : Nat → List Rw → World → Prop), Below w.heap.size w W →
    (∀ D1 pre A B, J D1 pre A → Below A.heap.size A B → J D1 pre B) →
    (∀ D1 pre x W0 W1, W.heap.size ≤ D1 → D1 ≤ W0.heap.size → J D1 pre W0 → Below W0.heap.size W0 W1 → NewRow W0 W1 x → (pre.map Prod.fst ++ [x.1]) <+: L →
      YieldAt Fence.wide m P l #[x.2] W1 fun e W' => (e = .returned (.bool true) ∧ J D1 (pre ++ [x]) W' ∧ Kept W.heap.size D1 bg W1 W') ∨ (e = .returned (.bool false) ∧ Jx D1 (pre ++ [x]) W')) →
    (∀ W', Below W.heap.size W W' → J W'.heap.size [] W') →
    CallsIn Fence.wide n P gf (#[.func (.yield l) #[] #[]] ++ lb) W fun e W' => (∃ v, e = .returned v) ∧
      ((∃ D1 ys, ys.map Prod.fst = L ∧ J D1 ys W') ∨ (∃ D1 ys, ys.map Prod.fst <+: L ∧ Jx D1 ys W'))

/-- How a body may be left. -/
def rowsPost (D D1 bg : Nat) (I Ix : Nat → List Rw → World → Prop) (xs : List Rw) (W : World) : Exit → Act → World → Prop
  | .normal, _, W' => Kept D D1 bg W W' ∧ I D1 xs W'
  | .ret, _, W' => Kept D D1 bg W W' ∧ Ix D1 xs W'
  | _, _, _ => False

theorem out_put {lo hi l : Nat} {W : World} (o : Obj) (h1 : lo ≤ l) (h2 : l < hi) : Out lo hi W (W.putObj l o) :=
  ⟨rfl, rfl, rfl, by simp, fun k hk hne => World.putObj_heap_other (by omega)⟩

/-- The law of the loop: 'for x := range seq { body }', the body being left at its end or by return. -/
theorem range_rows {P : Program} {g : Operand} {ps : Array Tmp} {assign body : Code} {Q : Exit → Act → World → Prop} {a : Act} {w : World} {n : Nat}
    {gf : Nat} {lb : Array Value} {bg : Nat} {L : List (List Int)} (hps : ps.size = 1) (hg : a.eval g = .func (.func gf) #[] lb) (eg : ∀ args w, (callFunc gf args).run P w = .ok (.enter gf args) w)
    (hseq : Seq P gf lb bg L w) (hbg : bg < w.heap.size) (I Ix : Nat → List Rw → World → Prop)
    (hI : ∀ D1 pre A B, I D1 pre A → Out w.heap.size (w.heap.size + 2) A B → I D1 pre B)
    (hIx : ∀ D1 pre A B, Ix D1 pre A → Out w.heap.size (w.heap.size + 2) A B → Ix D1 pre B)
    (h0 : ∀ W', Below w.heap.size w W' → w.heap.size + 2 ≤ W'.heap.size → I W'.heap.size [] W')
    (a₁ : Value → Act)
    (hassign : ∀ (l m : Nat) (x : Value) (W : World) (K : Act → World → Prop), K (a₁ x) W →
      assign.wpIn (Fence.wide.inRound l) m P (Exit.then K (fun _ _ _ => False)) { tmps := (ps.zip #[x]).foldl (fun t (p, v) => t.setIfInBounds p v) a.tmps, defers := [] } W)
    (hbody : ∀ (m D1 : Nat) (pre : List Rw) (x : Rw) (W0 W1 : World), w.heap.size + 2 ≤ D1 → D1 ≤ W0.heap.size → I D1 pre W0 → Out w.heap.size (w.heap.size + 2) W0 W1 → NewRow W0 W1 x → (pre.map Prod.fst ++ [x.1]) <+: L →
      body.wpIn (Fence.wide.inRound (w.heap.size + 1)) m P (rowsPost w.heap.size D1 bg I Ix (pre ++ [x]) W1) (a₁ x.2) W1)
    (hdone : ∀ (D1 : Nat) (ys : List Rw) (W : World), ys.map Prod.fst = L → I D1 ys W → W.heap[w.heap.size]? = some (.deferred (some [])) → Q .normal { a with defers := { target := .collected w.heap.size, args := #[] } :: a.defers } W)
    (hstop : ∀ (D1 : Nat) (ys : List Rw) (W : World), ys.map Prod.fst <+: L → Ix D1 ys W → W.heap[w.heap.size]? = some (.deferred (some [])) → Code.ret.wpIn Fence.wide n P Q { a with defers := { target := .collected w.heap.size, args := #[] } :: a.defers } W) :
    (Code.rangeFunc g ps assign body).wpIn Fence.wide n P Q a w := by
  refine wpIn_rangeFunc fun fn hfn => ?_
  let rec_ : LoopState → Option Code → Loop := fun st pe => { state := st, pending := pe, fn, tmps := a.tmps, params := ps, assign, body, defers := w.heap.size }
  obtain ⟨S, hS⟩ : ∃ S, (w.alloc (.deferred (some []))).alloc (.loop (rec_ .ready none)) = S := ⟨_, rfl⟩
  have hz : S.heap.size = w.heap.size + 2 := by rw [← hS]; simp
  have hbS : Below w.heap.size w S := by rw [← hS]; exact ((Below.refl _ _).alloc (Nat.le_refl _) _).alloc (by simp) _
  have hl : S.heap[w.heap.size + 1]? = some (.loop (rec_ .ready none)) := by
    rw [← hS]; have := World.alloc_heap_new (w.alloc (.deferred (some []))) (.loop (rec_ .ready none)); simpa using this
  have hd : S.heap[w.heap.size]? = some (.deferred (some [])) := by
    rw [← hS]; exact (Below.heap_alloc _ _ _ (by simp)).trans (World.alloc_heap_new w _)
  refine ⟨w.heap.size + 1, [{ target := .collected w.heap.size, args := #[] }], S, { target := .fn (.func gf) lb, args := #[.func (.yield (w.heap.size + 1)) #[] #[]] }, S, gf, #[.func (.yield (w.heap.size + 1)) #[] #[]] ++ lb, S,
    (by rw [← hS]; exact run_enterLoop_outer _ _ _ _ _), (by simp only [resolve, hg]; simp [go_sem]), fun _ _ => trivial, (by simp [invoke, go_sem, eg]), (fun q => by cases q), ?_⟩
  let Rec (st : LoopState) (pe : Option Code) (W : World) : Prop := W.heap[w.heap.size + 1]? = some (.loop (rec_ st pe)) ∧ W.heap[w.heap.size]? = some (.deferred (some []))
  have keep : ∀ {st pe A B}, Rec st pe A → Below A.heap.size A B → Rec st pe B := fun h hb =>
    ⟨(hb.block _ (Array.getElem?_eq_some_iff.1 h.1).1).trans h.1, (hb.block _ (Array.getElem?_eq_some_iff.1 h.2).1).trans h.2⟩
  have put : ∀ {st pe st' pe' A}, Rec st pe A → Rec st' pe' (A.putObj (w.heap.size + 1) (.loop (rec_ st' pe'))) := fun h =>
    ⟨World.putObj_heap_same (Array.getElem?_eq_some_iff.1 h.1).1, (World.putObj_heap_other (by omega)).trans h.2⟩
  refine (hseq (n - 1) 0 (w.heap.size + 1) S (fun D1 pre W => I D1 pre W ∧ Rec .ready none W) (fun D1 pre W => Ix D1 pre W ∧ Rec .done (some .ret) W) hbS
    (fun D1 pre A B h hb => ⟨hI _ _ _ _ h.1 (Out.of_below hb), keep h.2 hb⟩) ?_ (fun W' hb => ⟨h0 W' (hbS.trans (hb.mono (by omega))) (by have := hb.size; omega), keep ⟨hl, hd⟩ hb⟩)).mono ?_
  · intro D1 pre x W0 W1 hD hD0 hJ hb hx hpre
    have hR1 : Rec .ready none W1 := keep hJ.2 hb
    have hz1 := hb.size
    refine ⟨fn, _, assign, body, run_yield hR1.1 (by show #[x.2].size = ps.size; rw [hps]; rfl), roundIn_of_wpIn hfn (hassign _ _ x.2 W1 _ ⟨_, run_beginRound hR1.1 rfl, ?_⟩)⟩
    have hR2 : Rec .busy none (W1.putObj (w.heap.size + 1) (.loop (rec_ .busy none))) := put hR1
    have hx2 : NewRow W0 (W1.putObj (w.heap.size + 1) (.loop (rec_ .busy none))) x := hx.keep fun k q1 q2 => World.putObj_heap_other (by omega)
    refine wpIn_mono (hbody 0 D1 pre x W0 _ (by omega) hD0 hJ.1 ((Out.of_below hb).trans (out_put _ (by omega) (by omega))) hx2 hpre) ?_
    intro e a3 W3 hp
    cases e with
    | normal =>
      obtain ⟨hk, hi⟩ := hp
      have hR3 : Rec .busy none W3 := ⟨(hk.mid _ (by omega) (by omega)).trans hR2.1, (hk.mid _ (by omega) (by omega)).trans hR2.2⟩
      refine ⟨_, _, run_endRound none hR3.1, .inl ⟨rfl, ⟨hI _ _ _ _ hi (out_put _ (by omega) (by omega)), put hR3⟩, ?_⟩⟩
      exact ⟨by have := hk.size; simpa using this, (World.putObj_heap_other (by omega)).trans (hk.box.trans (World.putObj_heap_other (by omega))),
        fun k q1 q2 => (World.putObj_heap_other (by omega)).trans ((hk.mid k (by omega) q2).trans (World.putObj_heap_other (by omega)))⟩
    | ret =>
      obtain ⟨hk, hi⟩ := hp
      have hR3 : Rec .busy none W3 := ⟨(hk.mid _ (by omega) (by omega)).trans hR2.1, (hk.mid _ (by omega) (by omega)).trans hR2.2⟩
      exact ⟨_, _, run_endRound (some .ret) hR3.1, .inr ⟨rfl, hIx _ _ _ _ hi (out_put _ (by omega) (by omega)), put hR3⟩⟩
    | exit id => exact hp.elim
    | goto t => exact hp.elim
    | panic ch => exact hp.elim
    | outgrown => exact hp.elim
  · rintro e W2 ⟨⟨v, rfl⟩, (⟨D1, ys, hy, hi, hr⟩ | ⟨D1, ys, hy, hi, hr⟩)⟩
    · exact ⟨none, _, run_endLoop hr.1 (by simp [rec_]), hdone D1 ys _ hy (hI _ _ _ _ hi (out_put _ (by omega) (by omega))) ((World.putObj_heap_other (by omega)).trans hr.2)⟩
    · exact ⟨some .ret, _, run_endLoop hr.1 (by simp [rec_]), hstop D1 ys _ hy (hIx _ _ _ _ hi (out_put _ (by omega) (by omega))) ((World.putObj_heap_other (by omega)).trans hr.2)⟩
end Go.Proofs.Ytpmojmhamgcfmaa.rf
