import Derived.RangeFuncNested
import Derived.RangeFuncBound
import Derived.RangeFuncCalls
import Derived.RangeFuncLeaves
import Derived.OwnWalkIn
import Derived.TacticsInMore
import Derived.LoopNIn
import Derived.LoopIn
import Derived.Test.YtpmojmhamgcfmaaGreatY18
import Derived.Test.YtpmojmhamgcfmaaGreatY09
import Derived.Test.YtpmojmhamgcfmaaGreatY07
import Derived.Shelf.Slices.Turned
import Derived.Shelf.Slices.Reverse
import Derived.Shelf.Sort.Plain
import Derived.Shelf.Slices.In.SortNone
import Derived.Test.YtpmojmhamgcfmaaGreatProg
/-
  A loop over an iterator whose values are new slices of ints: the iterator's word, the loop's law; laws of the plain walk in a round.
-/
namespace Go.Proofs.YtpmojmhamgcfmaaGreat.rf
open Go.ChangeShapes Go.WideShapes Go.ChangeAt Go.RowKit
open Go.Proofs.YtpmojmhamgcfmaaGreat.mem Go.Proofs.YtpmojmhamgcfmaaGreat.ints Go.Proofs.YtpmojmhamgcfmaaGreat.arr
set_option linter.unusedVariables false
set_option maxRecDepth 100000

theorem callsIn_any {P : Program} {f : FuncId} {args : Array Value} {w : World} {R : Ending → World → Prop} (n l : Nat) (h : Calls P f args w R) : CallsIn (Fence.wide.inRound l) n P f args w R := CallsIn.inRound l (callsIn_wide.2 h)
theorem rowsIn_any {P : Program} {row : String} {args : Array Value} {w : World} {R : Value → World → Prop} (n : Nat) (h : Rows P row args w R) : RowsIn Fence.wide n P row args w R :=
  fun c cs _ => let ⟨v, w', r, s⟩ := h c cs; ⟨v, w', r, stepsIn_wide.2 s⟩
/-- At the fence that asks nothing an operation that is no defer is walked in a round as everywhere. -/
theorem wpIn_of_wp {P : Program} {o : Oper} {a : Act} {w : World} {next : Act → World → Prop} {Q : Exit → Act → World → Prop} (n l : Nat) (hd : ∀ c, o.op ≠ .defer c) (h : o.wp P a w next Q) : o.wpIn (Fence.wide.inRound l) n P a w next Q := by
  unfold Oper.wpIn
  refine ⟨fun _ _ => trivial, ?_⟩
  have e : o.semAt (Fence.wide.inRound l).round a.eval = execOp a.eval o := Oper.semAt_some l _ _ hd
  rw [e]
  unfold Oper.wp at h
  generalize (execOp a.eval o).run P w = r at *
  cases r with
  | halt hh w' => cases hh <;> first | exact h | exact h.elim
  | ok nx w' =>
    cases nx with
    | value v => exact h
    | skip => exact h
    | defer d => exact h
    | enter f args => exact ⟨(fun q => by cases q), (callsIn_any _ l h).mono fun e w'' q => by cases e <;> exact q⟩
    | row row args => exact ⟨(fun q => by cases q), rowsIn_any _ h⟩
    | _ => exact h.elim
theorem wpIn_of_wp0 {P : Program} {o : Oper} {a : Act} {w : World} {next : Act → World → Prop} {Q : Exit → Act → World → Prop} (n : Nat) (h : o.wp P a w next Q) : o.wpIn Fence.wide n P a w next Q := by
  unfold Oper.wpIn
  refine ⟨fun _ _ => trivial, ?_⟩
  have e : o.semAt Fence.wide.round a.eval = execOp a.eval o := by simp [Oper.semAt]
  rw [e]
  unfold Oper.wp at h
  generalize (execOp a.eval o).run P w = r at *
  cases r with
  | halt hh w' => cases hh <;> first | exact h | exact h.elim
  | ok nx w' =>
    cases nx with
    | value v => exact h
    | skip => exact h
    | defer d => exact h
    | enter f args => exact ⟨(fun q => by cases q), (callsIn_wide.2 h).mono fun e w'' q => by cases e <;> exact q⟩
    | row row args => exact ⟨(fun q => by cases q), rowsIn_any _ h⟩
    | _ => exact h.elim
section
variable {P : Program} {ops : Array Oper} {rest : List Oper} {o : Oper} {a : Act} {w : World} {Q : Exit → Act → World → Prop} {n : Nat}
theorem in_load_row (hgd : o.guard = none) (ty : TypeId) (x : Operand) (ho : o.op = .load ty x)
    (g : Nat) (hx : a.eval x = .pointer (some ⟨g, 0, none⟩)) (t : TypeId) (cs : Array Value) (fr : Nat × Nat) (d : TypeDesc) (hg : w.heap[g]? = some (.cells cs t fr))
    (hu : P.underlying ty = some d) (hd : (match d with | .struct _ | .array _ _ => true | _ => false) = true) (hi : (P.info? ty).map (·.size) = some cs.size)
    (h : wpListIn Fence.wide n P ops Q rest (a.put o.dst (.agg cs)) w) : wpListIn Fence.wide n P ops Q (o :: rest) a w :=
  wpListIn_plain hgd fun _ hK => wpIn_of_wp0 n (wp_load_row ty x ho g hx t cs fr d hg hu hd hi (hK _ _ h))
theorem in_store_row (hgd : o.guard = none) (ty : TypeId) (x y : Operand) (ho : o.op = .store ty x y)
    (g : Nat) (cells : Array Value) (hx : a.eval x = .pointer (some ⟨g, 0, none⟩)) (hy : a.eval y = .agg cells)
    (t : TypeId) (old : Array Value) (hg : w.heap[g]? = some (.cells old t (0, 0))) (hi : (P.info? ty).map (·.size) = some cells.size)
    (hold : old.size = cells.size) (h1 : cells.all (·.oneCell') = true)
    (h : wpListIn Fence.wide n P ops Q rest (a.put o.dst undef) (w.setRow g cells)) : wpListIn Fence.wide n P ops Q (o :: rest) a w :=
  wpListIn_plain hgd fun _ hK => wpIn_of_wp0 n (wp_store_row ty x y ho g cells hx hy t old hg hi hold h1 (hK _ _ h))
end

/-- A row of ints and the slice value that reads as it. -/
abbrev Rw := List Int × Value
/-- The blocks from D on and below D1, and block bg, are as they were. -/
structure Kept (D D1 bg : Nat) (W W' : World) : Prop where
  size : W.heap.size ≤ W'.heap.size
  box : W'.heap[bg]? = W.heap[bg]?
  mid : ∀ k, D ≤ k → k < D1 → W'.heap[k]? = W.heap[k]?
theorem Kept.mono {D D' D1 bg : Nat} {W W' : World} (h : Kept D D1 bg W W') (hd : D ≤ D') : Kept D' D1 bg W W' := ⟨h.size, h.box, fun k a b => h.mid k (by omega) b⟩
def NewRow (W0 W1 : World) (x : Rw) : Prop := W1.ownsRow W0.heap.size 3 1 x.2 x.1.length (V x.1)
theorem NewRow.keep {W0 W1 W2 : World} {x : Rw} (h : NewRow W0 W1 x) (hk : ∀ k, W0.heap.size ≤ k → k < W1.heap.size → W2.heap[k]? = W1.heap[k]?) : NewRow W0 W2 x := by
  refine ⟨h.1, ?_⟩
  rcases h.2 with h0 | ⟨g, cap, cur, q1, q2, q3, q4⟩
  · exact .inl h0
  · exact .inr ⟨g, cap, cur, q1, q2, (hk g q2 (Array.getElem?_eq_some_iff.1 q3).1).trans q3, q4⟩

/-- The iterator's word: it hands the rows of L to yield, one after another, each new; it keeps what J says; it wants its own blocks kept. -/
def Seq (P : Program) (gf : Nat) (lb : Array Value) (bg : Nat) (L : List (List Int)) (w : World) : Prop :=
  ∀ (n m l : Nat) (W : World) (J Jx : Nat → List Rw → World → Prop), Below w.heap.size w W →
    (∀ D1 pre A B, J D1 pre A → Below A.heap.size A B → J D1 pre B) →
    (∀ D1 pre x W0 W1, W.heap.size ≤ D1 → D1 ≤ W0.heap.size → J D1 pre W0 → Below W0.heap.size W0 W1 → NewRow W0 W1 x → (pre.map Prod.fst ++ [x.1]) <+: L →
      YieldAt Fence.wide m P l #[x.2] W1 fun e W' => (e = .returned (.bool true) ∧ J D1 (pre ++ [x]) W' ∧ Kept W.heap.size D1 bg W1 W') ∨ (e = .returned (.bool false) ∧ Jx D1 (pre ++ [x]) W')) →
    (∀ W', Below W.heap.size W W' → J W'.heap.size [] W') →
    CallsIn Fence.wide n P gf (#[.func (.yield l) #[] #[]] ++ lb) W fun e W' => (∃ v, e = .returned v) ∧
      ((∃ D1 ys, ys.map Prod.fst = L ∧ J D1 ys W') ∨ (∃ D1 ys, ys.map Prod.fst <+: L ∧ Jx D1 ys W'))

/-- How a body may be left. -/
def rowsPost (D D1 bg : Nat) (I Ix : Nat → List Rw → World → Prop) (xs : List Rw) (W : World) : Exit → Act → World → Prop
  | .normal, _, W' => Kept D D1 bg W W' ∧ I D1 xs W'
  | .ret, _, W' => Kept D D1 bg W W' ∧ Ix D1 xs W'
  | _, _, _ => False

theorem out_put {lo hi l : Nat} {W : World} (o : Obj) (h1 : lo ≤ l) (h2 : l < hi) : Out lo hi W (W.putObj l o) :=
  ⟨rfl, rfl, rfl, by simp, fun k hk hne => World.putObj_heap_other (by omega)⟩

/-- The law of the loop: 'for x := range seq { body }', the body being left at its end or by return. -/
theorem range_rows {P : Program} {g : Operand} {ps : Array Tmp} {assign body : Code} {Q : Exit → Act → World → Prop} {a : Act} {w : World} {n : Nat}
    {gf : Nat} {lb : Array Value} {bg : Nat} {L : List (List Int)} (hps : ps.size = 1) (hg : a.eval g = .func (.func gf) #[] lb) (eg : ∀ args w, (callFunc gf args).run P w = .ok (.enter gf args) w)
    (hseq : Seq P gf lb bg L w) (hbg : bg < w.heap.size) (I Ix : Nat → List Rw → World → Prop)
    (hI : ∀ D1 pre A B, I D1 pre A → Out w.heap.size (w.heap.size + 2) A B → I D1 pre B)
    (hIx : ∀ D1 pre A B, Ix D1 pre A → Out w.heap.size (w.heap.size + 2) A B → Ix D1 pre B)
    (h0 : ∀ W', Below w.heap.size w W' → w.heap.size + 2 ≤ W'.heap.size → I W'.heap.size [] W')
    (a₁ : Value → Act)
    (hassign : ∀ (l m : Nat) (x : Value) (W : World) (K : Act → World → Prop), K (a₁ x) W →
      assign.wpIn (Fence.wide.inRound l) m P (Exit.then K (fun _ _ _ => False)) { tmps := (ps.zip #[x]).foldl (fun t (p, v) => t.setIfInBounds p v) a.tmps, defers := [] } W)
    (hbody : ∀ (m D1 : Nat) (pre : List Rw) (x : Rw) (W0 W1 : World), w.heap.size + 2 ≤ D1 → D1 ≤ W0.heap.size → I D1 pre W0 → Out w.heap.size (w.heap.size + 2) W0 W1 → NewRow W0 W1 x → (pre.map Prod.fst ++ [x.1]) <+: L →
      body.wpIn (Fence.wide.inRound (w.heap.size + 1)) m P (rowsPost w.heap.size D1 bg I Ix (pre ++ [x]) W1) (a₁ x.2) W1)
    (hdone : ∀ (D1 : Nat) (ys : List Rw) (W : World), ys.map Prod.fst = L → I D1 ys W → W.heap[w.heap.size]? = some (.deferred (some [])) → Q .normal { a with defers := { target := .collected w.heap.size, args := #[] } :: a.defers } W)
    (hstop : ∀ (D1 : Nat) (ys : List Rw) (W : World), ys.map Prod.fst <+: L → Ix D1 ys W → W.heap[w.heap.size]? = some (.deferred (some [])) → Code.ret.wpIn Fence.wide n P Q { a with defers := { target := .collected w.heap.size, args := #[] } :: a.defers } W) :
    (Code.rangeFunc g ps assign body).wpIn Fence.wide n P Q a w := by
  refine wpIn_rangeFunc fun fn hfn => ?_
  let rec_ : LoopState → Option Code → Loop := fun st pe => { state := st, pending := pe, fn, tmps := a.tmps, params := ps, assign, body, defers := w.heap.size }
  obtain ⟨S, hS⟩ : ∃ S, (w.alloc (.deferred (some []))).alloc (.loop (rec_ .ready none)) = S := ⟨_, rfl⟩
  have hz : S.heap.size = w.heap.size + 2 := by rw [← hS]; simp
  have hbS : Below w.heap.size w S := by rw [← hS]; exact ((Below.refl _ _).alloc (Nat.le_refl _) _).alloc (by simp) _
  have hl : S.heap[w.heap.size + 1]? = some (.loop (rec_ .ready none)) := by
    rw [← hS]; have := World.alloc_heap_new (w.alloc (.deferred (some []))) (.loop (rec_ .ready none)); simpa using this
  have hd : S.heap[w.heap.size]? = some (.deferred (some [])) := by
    rw [← hS]; exact (Below.heap_alloc _ _ _ (by simp)).trans (World.alloc_heap_new w _)
  refine ⟨w.heap.size + 1, [{ target := .collected w.heap.size, args := #[] }], S, { target := .fn (.func gf) lb, args := #[.func (.yield (w.heap.size + 1)) #[] #[]] }, S, gf, #[.func (.yield (w.heap.size + 1)) #[] #[]] ++ lb, S,
    (by rw [← hS]; exact run_enterLoop_outer _ _ _ _ _), (by simp only [resolve, hg]; simp [go_sem]), fun _ _ => trivial, (by simp [invoke, go_sem, eg]), (fun q => by cases q), ?_⟩
  let Rec (st : LoopState) (pe : Option Code) (W : World) : Prop := W.heap[w.heap.size + 1]? = some (.loop (rec_ st pe)) ∧ W.heap[w.heap.size]? = some (.deferred (some []))
  have keep : ∀ {st pe A B}, Rec st pe A → Below A.heap.size A B → Rec st pe B := fun h hb =>
    ⟨(hb.block _ (Array.getElem?_eq_some_iff.1 h.1).1).trans h.1, (hb.block _ (Array.getElem?_eq_some_iff.1 h.2).1).trans h.2⟩
  have put : ∀ {st pe st' pe' A}, Rec st pe A → Rec st' pe' (A.putObj (w.heap.size + 1) (.loop (rec_ st' pe'))) := fun h =>
    ⟨World.putObj_heap_same (Array.getElem?_eq_some_iff.1 h.1).1, (World.putObj_heap_other (by omega)).trans h.2⟩
  refine (hseq (n - 1) 0 (w.heap.size + 1) S (fun D1 pre W => I D1 pre W ∧ Rec .ready none W) (fun D1 pre W => Ix D1 pre W ∧ Rec .done (some .ret) W) hbS
    (fun D1 pre A B h hb => ⟨hI _ _ _ _ h.1 (Out.of_below hb), keep h.2 hb⟩) ?_ (fun W' hb => ⟨h0 W' (hbS.trans (hb.mono (by omega))) (by have := hb.size; omega), keep ⟨hl, hd⟩ hb⟩)).mono ?_
  · intro D1 pre x W0 W1 hD hD0 hJ hb hx hpre
    have hR1 : Rec .ready none W1 := keep hJ.2 hb
    have hz1 := hb.size
    refine ⟨fn, _, assign, body, run_yield hR1.1 (by show #[x.2].size = ps.size; rw [hps]; rfl), roundIn_of_wpIn hfn (hassign _ _ x.2 W1 _ ⟨_, run_beginRound hR1.1 rfl, ?_⟩)⟩
    have hR2 : Rec .busy none (W1.putObj (w.heap.size + 1) (.loop (rec_ .busy none))) := put hR1
    have hx2 : NewRow W0 (W1.putObj (w.heap.size + 1) (.loop (rec_ .busy none))) x := hx.keep fun k q1 q2 => World.putObj_heap_other (by omega)
    refine wpIn_mono (hbody 0 D1 pre x W0 _ (by omega) hD0 hJ.1 ((Out.of_below hb).trans (out_put _ (by omega) (by omega))) hx2 hpre) ?_
    intro e a3 W3 hp
    cases e with
    | normal =>
      obtain ⟨hk, hi⟩ := hp
      have hR3 : Rec .busy none W3 := ⟨(hk.mid _ (by omega) (by omega)).trans hR2.1, (hk.mid _ (by omega) (by omega)).trans hR2.2⟩
      refine ⟨_, _, run_endRound none hR3.1, .inl ⟨rfl, ⟨hI _ _ _ _ hi (out_put _ (by omega) (by omega)), put hR3⟩, ?_⟩⟩
      exact ⟨by have := hk.size; simpa using this, (World.putObj_heap_other (by omega)).trans (hk.box.trans (World.putObj_heap_other (by omega))),
        fun k q1 q2 => (World.putObj_heap_other (by omega)).trans ((hk.mid k (by omega) q2).trans (World.putObj_heap_other (by omega)))⟩
    | ret =>
      obtain ⟨hk, hi⟩ := hp
      have hR3 : Rec .busy none W3 := ⟨(hk.mid _ (by omega) (by omega)).trans hR2.1, (hk.mid _ (by omega) (by omega)).trans hR2.2⟩
      exact ⟨_, _, run_endRound (some .ret) hR3.1, .inr ⟨rfl, hIx _ _ _ _ hi (out_put _ (by omega) (by omega)), put hR3⟩⟩
    | exit id => exact hp.elim
    | goto t => exact hp.elim
    | panic ch => exact hp.elim
    | outgrown => exact hp.elim
  · rintro e W2 ⟨⟨v, rfl⟩, (⟨D1, ys, hy, hi, hr⟩ | ⟨D1, ys, hy, hi, hr⟩)⟩
    · exact ⟨none, _, run_endLoop hr.1 (by simp [rec_]), hdone D1 ys _ hy (hI _ _ _ _ hi (out_put _ (by omega) (by omega))) ((World.putObj_heap_other (by omega)).trans hr.2)⟩
    · exact ⟨some .ret, _, run_endLoop hr.1 (by simp [rec_]), hstop D1 ys _ hy (hIx _ _ _ _ hi (out_put _ (by omega) (by omega))) ((World.putObj_heap_other (by omega)).trans hr.2)⟩
end Go.Proofs.YtpmojmhamgcfmaaGreat.rf

/-
  The round about the corners: of the program's gluing, of the model.
-/
namespace Go.Proofs.YtpmojmhamgcfmaaGreat.gl
open Go.ChangeShapes Go.WideShapes Go.ChangeAt Go.RowKit
open Go.Proofs.YtpmojmhamgcfmaaGreat.mem Go.Proofs.YtpmojmhamgcfmaaGreat.ints Go.Proofs.YtpmojmhamgcfmaaGreat.arr Go.Proofs.YtpmojmhamgcfmaaGreat.pm Go.Proofs.YtpmojmhamgcfmaaGreat.permOk Go.Proofs.YtpmojmhamgcfmaaGreat.permOf Go.Proofs.YtpmojmhamgcfmaaGreat.inv Go.Proofs.YtpmojmhamgcfmaaGreat.fns Go.Proofs.YtpmojmhamgcfmaaGreat.sf
set_option linter.unusedVariables false
set_option maxRecDepth 100000

set_option maxHeartbeats 8000000 in
theorem around_any (p q : List Int) (n : Nat) (w : World) (hp : Sq p) (hq : Sq q) :
    Calls Tryz.prog 84 #[.agg (V (gl p q n)).toArray] w fun e w' => e = .returned (.agg (V (ar24 p q)).toArray) ∧ Below w.heap.size w w' := by
  have HP := Lib.hid hp; have HQ := Lib.hid hq; clear hp hq
  go_enter Tryz.func84, Tryz.ntmps84
  go_wp2_with fail
  generalize hw1 : (w.alloc (.cells (V (gl p q n)).toArray 62)).alloc (.cells #[.int .i64 0, .int .i64 0, .int .i64 0, .int .i64 0, .int .i64 0, .int .i64 0, .int .i64 0, .int .i64 0, .int .i64 0, .int .i64 0, .int .i64 0, .int .i64 0, .int .i64 0, .int .i64 0, .int .i64 0, .int .i64 0, .int .i64 0, .int .i64 0, .int .i64 0, .int .i64 0, .int .i64 0, .int .i64 0, .int .i64 0, .int .i64 0] 60) = w1
  have A2 : Hid (Arr w1 w.heap.size (V (gl p q n)) 62) := Lib.hid (by rw [← hw1]; exact (Arr.new w _ _ rfl).alloc _)
  have A4 : Hid (Arr w1 (w.heap.size + 1) (V zeros) 60) := Lib.hid (by rw [← hw1]; exact Arr.new _ (V zeros) _ (by simp))
  have B1 : Hid (Below w.heap.size w w1) := Lib.hid (by rw [← hw1]; exact ((Below.refl _ _).alloc (Nat.le_refl _) _).alloc (by simp) _)
  have s1 : w1.heap.size = w.heap.size + 2 := by rw [← hw1]; simp
  clear hw1
  refine wp_region_held_drew (S := Hld w.heap.size w1.heap.size w1 [(w.heap.size, V (gl p q n))]) (by kernel_rfl) ((Hld.start1 A2.out).lower (by omega)) (fun hHeld => ?_)
  have b1 : Below w1.heap.size w1 w1.drew := ⟨rfl, rfl, rfl, Nat.le_refl _, fun _ _ => rfl⟩
  generalize w1.drew = w4 at *
  have s4 := b1.size
  replace A4 := Lib.hid (A4.out.keep b1 A4.out.lt)
  replace B1 := Lib.hid (B1.out.trans (b1.mono B1.out.size))
  clear b1 A2
  refine wpAnyH_take (i := 0) (v := .pointer (some ⟨w.heap.size, 0, none⟩)) rfl (by kernel_rfl) (by kernel_rfl) (by kernel_rfl) (fun _ _ _ h => h) (Or.inl ⟨by rfl, fun w hSw => by go_simp⟩) hHeld ?_
  refine wpAnyH_take (i := 2) (v := .pointer (some ⟨w.heap.size, 24, none⟩)) rfl (by kernel_rfl) (by kernel_rfl) (by kernel_rfl) (fun _ _ _ h => h) (Or.inl ⟨by rfl, fun w hSw => by go_simp⟩) hHeld ?_
  refine wpAnyH_take (i := 5) (v := .pointer (some ⟨w.heap.size, 0, none⟩)) rfl (by kernel_rfl) (by kernel_rfl) (by kernel_rfl) (fun _ _ _ h => h) (Or.inl ⟨by rfl, fun w hSw => by go_simp⟩) hHeld ?_
  refine wpAnyH_take (i := 9) (v := .pointer (some ⟨w.heap.size, 24, none⟩)) rfl (by kernel_rfl) (by kernel_rfl) (by kernel_rfl) (fun _ _ _ h => h) (Or.inl ⟨by rfl, fun w hSw => by go_simp⟩) hHeld ?_
  refine wpAnyH_take (i := 1) (v := .agg (V p).toArray) rfl (by kernel_rfl) (by kernel_rfl) (by kernel_rfl) (fun _ _ _ h => h) (yieldsIf_load_mid (by rfl) _ _ rfl (w.heap.size) 0 rfl (V p) _ (fun w h => rg_right HP.out.len h.fst) Tryz.underlying60 rfl (hi24 HP.out.len)) hHeld ?_
  refine wpAnyH_take (i := 3) (v := .agg (V q).toArray) rfl (by kernel_rfl) (by kernel_rfl) (by kernel_rfl) (fun _ _ _ h => h) (yieldsIf_load_mid (by rfl) _ _ rfl (w.heap.size) 24 rfl (V q) _ (fun w h => rg_up HP.out.len HQ.out.len h.fst) Tryz.underlying60 rfl (hi24 HQ.out.len)) hHeld ?_
  refine wpAnyH_take (i := 6) (v := .agg (V p).toArray) rfl (by kernel_rfl) (by kernel_rfl) (by kernel_rfl) (fun _ _ _ h => h) (yieldsIf_load_mid (by rfl) _ _ rfl (w.heap.size) 0 rfl (V p) _ (fun w h => rg_right HP.out.len h.fst) Tryz.underlying60 rfl (hi24 HP.out.len)) hHeld ?_
  refine wpAnyH_take (i := 10) (v := .agg (V q).toArray) rfl (by kernel_rfl) (by kernel_rfl) (by kernel_rfl) (fun _ _ _ h => h) (yieldsIf_load_mid (by rfl) _ _ rfl (w.heap.size) 24 rfl (V q) _ (fun w h => rg_up HP.out.len HQ.out.len h.fst) Tryz.underlying60 rfl (hi24 HQ.out.len)) hHeld ?_
  refine wpAnyH_ready (rs := [4]) (by kernel_rfl) (by simp) (AllReadyH.cons rfl (fun K hK => ?_) AllReadyH.nil)
  go_simp
  refine (inv.then_any p q _ HP.out HQ.out).mono ?_
  rintro e w' ⟨rfl, b1⟩
  replace A4 := Lib.hid (A4.out.keep b1 A4.out.lt)
  replace B1 := Lib.hid (B1.out.trans (b1.mono B1.out.size))
  go_wp2_with fail
  have hHeld2 := hHeld.later b1 (by omega); clear b1 hHeld
  refine hK.out _ _ hHeld2 (fun hHeld => ?_)
  clear hK K hHeld2
  refine wpAnyH_ready (rs := [7]) (by kernel_rfl) (by simp) (AllReadyH.cons rfl (fun K hK => ?_) AllReadyH.nil)
  go_simp
  refine (inverse_any p _ HP.out).mono ?_
  rintro e w' ⟨rfl, b1⟩
  replace A4 := Lib.hid (A4.out.keep b1 A4.out.lt)
  replace B1 := Lib.hid (B1.out.trans (b1.mono B1.out.size))
  go_wp2_with fail
  have hHeld2 := hHeld.later b1 (by omega); clear b1 hHeld
  refine hK.out _ _ hHeld2 (fun hHeld => ?_)
  clear hK K hHeld2
  refine wpAnyH_ready (rs := [8]) (by kernel_rfl) (by simp) (AllReadyH.cons rfl (fun K hK => ?_) AllReadyH.nil)
  go_simp
  refine (inv.then_any (thenL p q) (invTo 24 p 24) _ (then_sq HP.out HQ.out) (inv_sq _)).mono ?_
  rintro e w' ⟨rfl, b1⟩
  replace A4 := Lib.hid (A4.out.keep b1 A4.out.lt)
  replace B1 := Lib.hid (B1.out.trans (b1.mono B1.out.size))
  go_wp2_with fail
  have hHeld2 := hHeld.later b1 (by omega); clear b1 hHeld
  refine hK.out _ _ hHeld2 (fun hHeld => ?_)
  clear hK K hHeld2
  refine wpAnyH_ready (rs := [11]) (by kernel_rfl) (by simp) (AllReadyH.cons rfl (fun K hK => ?_) AllReadyH.nil)
  go_simp
  refine (inverse_any q _ HQ.out).mono ?_
  rintro e w' ⟨rfl, b1⟩
  replace A4 := Lib.hid (A4.out.keep b1 A4.out.lt)
  replace B1 := Lib.hid (B1.out.trans (b1.mono B1.out.size))
  go_wp2_with fail
  have hHeld2 := hHeld.later b1 (by omega); clear b1 hHeld
  refine hK.out _ _ hHeld2 (fun hHeld => ?_)
  clear hK K hHeld2
  refine wpAnyH_ready (rs := [12]) (by kernel_rfl) (by simp) (AllReadyH.cons rfl (fun K hK => ?_) AllReadyH.nil)
  go_simp
  refine (inv.then_any (thenL (thenL p q) (invTo 24 p 24)) (invTo 24 q 24) _ (then_sq (then_sq HP.out HQ.out) (inv_sq _)) (inv_sq _)).mono ?_
  rintro e w' ⟨rfl, b1⟩
  replace A4 := Lib.hid (A4.out.keep b1 A4.out.lt)
  replace B1 := Lib.hid (B1.out.trans (b1.mono B1.out.size))
  go_wp2_with fail
  have hHeld2 := hHeld.later b1 (by omega); clear b1 hHeld
  refine hK.out _ _ hHeld2 (fun hHeld => ?_)
  clear hK K hHeld2
  have HA : Hid (thenL (thenL (thenL p q) (invTo 24 p 24)) (invTo 24 q 24) = ar24 p q) := Lib.hid rfl
  rw [HA.out]
  have HL := Lib.hid (ar24_len p q)
  generalize haa : ar24 p q = a at *
  have HAA := Lib.hid haa; clear haa
  clear HA
  refine wpAnyH_ready (rs := [13]) (by kernel_rfl) (by simp) (AllReadyH.cons rfl (fun K hK => ?_) AllReadyH.nil)
  refine step_store_row rfl 60 _ _ rfl (w.heap.size + 1) (V a).toArray rfl rfl 60 (V zeros).toArray A4.out (size_V HL.out) (by simp [V_len, HL.out, zeros]) (one_V _) ?_
  refine hK.out _ _ (hHeld.other (by omega) (by simp) _) (fun hHeld2 => ?_)
  clear hK K hHeld2
  refine wpAnyH_done (by kernel_rfl) ?_ _
  go_wp2_with fail
  exact bodyPost_ret (v := .agg (V a).toArray) (results_cell_row rfl _ _ (w.heap.size + 1) 60 (V a).toArray (0, 0) _ rfl A4.out.row Tryz.underlying60 rfl (size_V HL.out)) rfl ⟨by rw [HAA.out], below_setRow B1.out (by omega) _⟩

theorem l02inv_gives (A : Option Addr) (n c : Nat) (xs : List Int) (hi : Nat) (w : World) (hx : Rd w hi A n (V xs)) (ok : Ok xs) (hn : xs.length = n) :
    Calls Tryz.prog 58 #[.slice A n c] w (Gives (Inv xs) w) := by
  subst hn; exact l02inv_any A _ c xs hi w hx ok
theorem _root_.Go.Proofs.YtpmojmhamgcfmaaGreat.sf.Hld.c0 {base top a : Nat} {w W : World} {x y : Value} {l : List (Nat × List Value)} (h : Hld base top w ((a, [x, y]) :: l) W) : W.cell? ⟨a, 0, none⟩ = some x := by simpa using h.fst 0 x rfl
theorem _root_.Go.Proofs.YtpmojmhamgcfmaaGreat.sf.Hld.c1 {base top a : Nat} {w W : World} {x y : Value} {l : List (Nat × List Value)} (h : Hld base top w ((a, [x, y]) :: l) W) : W.cell? ⟨a, 1, none⟩ = some y := by simpa using h.fst 1 y rfl
set_option maxHeartbeats 4000000 in
theorem around_spec (v : Value) (r u : List Int) (hi : Nat) (w : World) (hx : Srd w hi v r u) (hs : Sf r.length r u) :
    Calls Tryz.prog 61 #[v] w (Gives (comm r u) w) := by
  have HX := Lib.hid hx; clear hx
  have HS := Lib.hid hs; clear hs
  obtain ⟨P, n, c, Q, m, d, rfl, q1, q2, e1, e2, ht, HR⟩ := HX.out.open
  have RU : Hid (r.length = u.length) := Lib.hid (HS.out.lu ▸ rfl)
  have HI : Hid (n = m) := Lib.hid (by rw [← q1, ← q2]; exact RU.out)
  have Q1 := Lib.hid q1; have Q2 := Lib.hid q2; clear q1 q2
  go_enter Tryz.func61, Tryz.ntmps61
  go_wp2_with fail
  refine (l02then_any P n c Q m d r u _ _ _ (HR.out _).1 (HR.out _).2 HS.out.r HI.out).mono ?_
  rintro e w1 hg
  obtain ⟨v1, rfl, o1, b1⟩ := hg
  obtain ⟨P1, c1, rfl⟩ := own_form o1
  have hs1 : w.heap.size + 1 ≤ w1.heap.size := by have := b1.size; simpa using this
  have A0 := Lib.hid ((Arr.new w [.slice P n c, .slice Q m d] 31 rfl).keep b1 (by simp))
  have R1 := Lib.hid (Row.of_own o1)
  have B1 := Lib.hid (below1 _ _ b1)
  have X1 : Hid (Srd w1 hi (.agg #[.slice P n c, .slice Q m d]) r u) := Lib.hid (HX.out.keep (B1.out.mono ht) (Nat.le_refl _))
  clear o1 b1 HR
  go_wp2_with fail
  refine wp_region_held_drew (S := Hld w1.heap.size w1.heap.size w1 [(w.heap.size, [.slice P n c, .slice Q m d])]) (by kernel_rfl) (Hld.start1 A0.out) (fun hHeld => ?_)
  have b1 : Below w1.heap.size w1 w1.drew := ⟨rfl, rfl, rfl, Nat.le_refl _, fun _ _ => rfl⟩
  generalize w1.drew = w2 at *
  have s_ := b1.size; replace R1 := Lib.hid (R1.out.keep b1 R1.out.2.1); replace X1 := Lib.hid (X1.out.keep b1 X1.out.top); replace B1 := Lib.hid (B1.out.trans (b1.mono B1.out.size))
  replace A0 := Lib.hid (A0.out.keep b1 A0.out.lt); clear b1 s_
  refine wpAnyH_take (i := 0) (v := .pointer (some ⟨w.heap.size, 0, none⟩)) rfl (by kernel_rfl) (by kernel_rfl) (by kernel_rfl) (fun _ _ _ h => h) (Or.inl ⟨by rfl, fun w hSw => by go_simp⟩) hHeld ?_
  refine wpAnyH_take (i := 3) (v := .pointer (some ⟨w.heap.size, 1, none⟩)) rfl (by kernel_rfl) (by kernel_rfl) (by kernel_rfl) (fun _ _ _ h => h) (Or.inl ⟨by rfl, fun w hSw => by go_simp⟩) hHeld ?_
  refine wpAnyH_take (i := 1) (v := .slice P n c) rfl (by kernel_rfl) (by kernel_rfl) (by kernel_rfl) (fun _ _ _ h => h) (Or.inl ⟨by rfl, fun w hSw => by have := hSw.c0; go_simp⟩) hHeld ?_
  refine wpAnyH_take (i := 4) (v := .slice Q m d) rfl (by kernel_rfl) (by kernel_rfl) (by kernel_rfl) (fun _ _ _ h => h) (Or.inl ⟨by rfl, fun w hSw => by have := hSw.c1; go_simp⟩) hHeld ?_
  refine wpAnyH_ready (rs := [2]) (by kernel_rfl) (by simp) (AllReadyH.cons rfl (fun K hK => ?_) AllReadyH.nil)
  go_simp
  refine (l02inv_gives P n c r hi _ (Srd.fst X1.out) HS.out.r Q1.out).mono ?_
  rintro e w3 ⟨v3, rfl, o3, b1⟩
  obtain ⟨P3, c3, rfl⟩ := own_form o3
  have s_ := b1.size; replace R1 := Lib.hid (R1.out.keep b1 R1.out.2.1); replace X1 := Lib.hid (X1.out.keep b1 X1.out.top); replace B1 := Lib.hid (B1.out.trans (b1.mono B1.out.size))
  have R3 := Lib.hid (Row.of_own o3); clear o3 s_
  go_wp2_with fail
  have hHeld2 := hHeld.later b1 (by omega); clear b1 hHeld
  refine hK.out _ _ hHeld2 (fun hHeld => ?_)
  clear hK K hHeld2
  refine wpAnyH_ready (rs := [5]) (by kernel_rfl) (by simp) (AllReadyH.cons rfl (fun K hK => ?_) AllReadyH.nil)
  go_simp
  refine (l02inv_gives Q m d u hi _ (Srd.snd X1.out) HS.out.u Q2.out).mono ?_
  rintro e w4 ⟨v4, rfl, o4, b1⟩
  obtain ⟨P4, c4, rfl⟩ := own_form o4
  have s_ := b1.size; replace R1 := Lib.hid (R1.out.keep b1 R1.out.2.1); replace X1 := Lib.hid (X1.out.keep b1 X1.out.top); replace B1 := Lib.hid (B1.out.trans (b1.mono B1.out.size))
  replace R3 := Lib.hid (R3.out.keep b1 R3.out.2.1)
  have R4 := Lib.hid (Row.of_own o4); clear o4 s_
  go_wp2_with fail
  have hHeld2 := hHeld.later b1 (by omega); clear b1 hHeld
  refine hK.out _ _ hHeld2 (fun hHeld => ?_)
  clear hK K hHeld2
  refine wpAnyH_ready (rs := [6]) (by kernel_rfl) (by simp) (AllReadyH.cons rfl (fun K hK => ?_) AllReadyH.nil)
  go_simp
  refine (l02then_any P3 _ c3 P4 _ c4 (Inv r) (Inv u) _ _ _ R3.out.rd R4.out.rd (Inv_ok HS.out.r) (by rw [Inv_len, Inv_len]; exact RU.out)).mono ?_
  rintro e w5 ⟨v5, rfl, o5, b1⟩
  obtain ⟨P5, c5, rfl⟩ := own_form o5
  have s_ := b1.size; replace R1 := Lib.hid (R1.out.keep b1 R1.out.2.1); replace X1 := Lib.hid (X1.out.keep b1 X1.out.top); replace B1 := Lib.hid (B1.out.trans (b1.mono B1.out.size))
  replace R3 := Lib.hid (R3.out.keep b1 R3.out.2.1)
  replace R4 := Lib.hid (R4.out.keep b1 R4.out.2.1)
  have R5 := Lib.hid (Row.of_own o5); clear o5 s_
  go_wp2_with fail
  have hHeld2 := hHeld.later b1 (by omega); clear b1 hHeld
  refine hK.out _ _ hHeld2 (fun hHeld => ?_)
  clear hK K hHeld2
  refine wpAnyH_ready (rs := [7]) (by kernel_rfl) (by simp) (AllReadyH.cons rfl (fun K hK => ?_) AllReadyH.nil)
  go_simp
  refine hK.out _ _ hHeld (fun hHeld2 => ?_)
  clear hK K hHeld hHeld2
  refine wpAnyH_done (by kernel_rfl) ?_ _
  go_wp2_with fail
  refine (l02then_any P1 _ c1 P5 _ c5 (thn r u) (thn (Inv r) (Inv u)) _ _ _ R1.out.rd R5.out.rd (thn_ok HS.out.r HS.out.u RU.out) (by rw [thn_len, thn_len, Inv_len])).mono ?_
  rintro e w6 hg
  obtain ⟨v6, rfl, o6, b6⟩ := gives_later B1.out hg
  have O6 := Lib.hid o6; have B6 := Lib.hid b6; clear o6 b6 hg
  have HC : Hid (comm r u = thn (thn r u) (thn (Inv r) (Inv u))) := Lib.hid rfl
  rw [HC.out]
  go_wp2_with fail
  go_ret
  exact ⟨v6, rfl, O6.out, B6.out⟩
end Go.Proofs.YtpmojmhamgcfmaaGreat.gl

/-
  Contracts of functions of Go's library at this program: the library's theorems, applied to the numbers that the functions have here.
-/
namespace Go.Proofs
open Go.Shelf
def Tryz.lays189_ren : Go.Shelf.Ren := ⟨fun | 189 => 73 | 125 => 88 | 257 => 87 | 128 => 101 | 129 => 102 | 294 => 92 | 295 => 93 | 296 => 94 | 297 => 95 | 298 => 96 | 299 => 97 | 216 => 98 | 300 => 99 | 301 => 100 | 328 => 104 | 329 => 105 | 330 => 106 | 331 => 107 | 332 => 108 | 215 => 42 | 343 => 109 | n => n, fun | 28 => 29 | 3 => 3 | 46 => 75 | 0 => 0 | 51 => 123 | 53 => 125 | 4 => 4 | 183 => 116 | 182 => 115 | 131 => 49 | 5 => 5 | 9 => 9 | 218 => 127 | 222 => 131 | 228 => 133 | 229 => 134 | n => n, fun | n => n⟩
theorem Tryz.lays189 : Go.Proofs.Lays.n189 Tryz.prog Tryz.lays189_ren := {
  mixed := by kernel_rfl
  f125 := Tryz.func88.trans (congrArg some (by kernel_rfl))
  f128 := Tryz.func101.trans (congrArg some (by kernel_rfl))
  f129 := Tryz.func102.trans (congrArg some (by kernel_rfl))
  f189 := Tryz.func73.trans (congrArg some (by kernel_rfl))
  f215 := Tryz.func42.trans (congrArg some (by kernel_rfl))
  f216 := Tryz.func98.trans (congrArg some (by kernel_rfl))
  f257 := Tryz.func87.trans (congrArg some (by kernel_rfl))
  f294 := Tryz.func92.trans (congrArg some (by kernel_rfl))
  f295 := Tryz.func93.trans (congrArg some (by kernel_rfl))
  f296 := Tryz.func94.trans (congrArg some (by kernel_rfl))
  f297 := Tryz.func95.trans (congrArg some (by kernel_rfl))
  f298 := Tryz.func96.trans (congrArg some (by kernel_rfl))
  f299 := Tryz.func97.trans (congrArg some (by kernel_rfl))
  f300 := Tryz.func99.trans (congrArg some (by kernel_rfl))
  f301 := Tryz.func100.trans (congrArg some (by kernel_rfl))
  f328 := Tryz.func104.trans (congrArg some (by kernel_rfl))
  f329 := Tryz.func105.trans (congrArg some (by kernel_rfl))
  f330 := Tryz.func106.trans (congrArg some (by kernel_rfl))
  f331 := Tryz.func107.trans (congrArg some (by kernel_rfl))
  f332 := Tryz.func108.trans (congrArg some (by kernel_rfl))
  f343 := Tryz.func109.trans (congrArg some (by kernel_rfl))
  t0 := Tryz.underlying0
  a0 := Tryz.isAgg0
  z0 := Tryz.sizeOf0
  v0 := Tryz.zeroValue0
  t3 := Tryz.underlying3
  a3 := Tryz.isAgg3
  z3 := Tryz.sizeOf3
  v3 := Tryz.zeroValue3
  t4 := Tryz.underlying4
  a4 := Tryz.isAgg4
  z4 := Tryz.sizeOf4
  v4 := Tryz.zeroValue4
  t5 := Tryz.underlying5
  a5 := Tryz.isAgg5
  z5 := Tryz.sizeOf5
  v5 := Tryz.zeroValue5
  t9 := Tryz.underlying9
  a9 := Tryz.isAgg9
  z9 := Tryz.sizeOf9
  v9 := Tryz.zeroValue9
  t28 := Tryz.underlying29
  a28 := Tryz.isAgg29
  z28 := Tryz.sizeOf29
  v28 := Tryz.zeroValue29
  t46 := Tryz.underlying75
  a46 := Tryz.isAgg75
  z46 := Tryz.sizeOf75
  v46 := Tryz.zeroValue75
  t51 := Tryz.underlying123
  a51 := Tryz.isAgg123
  z51 := Tryz.sizeOf123
  v51 := Tryz.zeroValue123
  t53 := Tryz.underlying125
  a53 := Tryz.isAgg125
  z53 := Tryz.sizeOf125
  v53 := Tryz.zeroValue125
  t131 := Tryz.underlying49
  a131 := Tryz.isAgg49
  z131 := Tryz.sizeOf49
  v131 := Tryz.zeroValue49
  t182 := Tryz.underlying115
  a182 := Tryz.isAgg115
  z182 := Tryz.sizeOf115
  v182 := Tryz.zeroValue115
  t183 := Tryz.underlying116
  a183 := Tryz.isAgg116
  z183 := Tryz.sizeOf116
  v183 := Tryz.zeroValue116
  t218 := Tryz.underlying127
  a218 := Tryz.isAgg127
  z218 := Tryz.sizeOf127
  v218 := Tryz.zeroValue127
  t222 := Tryz.underlying131
  a222 := Tryz.isAgg131
  z222 := Tryz.sizeOf131
  v222 := Tryz.zeroValue131
  t228 := Tryz.underlying133
  a228 := Tryz.isAgg133
  z228 := Tryz.sizeOf133
  v228 := Tryz.zeroValue133
  t229 := Tryz.underlying134
  a229 := Tryz.isAgg134
  z229 := Tryz.sizeOf134
  v229 := Tryz.zeroValue134 }
open Go.Sort Go.RowKit in
theorem Tryz.slices_Sort_int (blk off cap : Nat) (zs : List Int) (w : World) (hH : Holds (Value.int .i64) w blk off zs.toArray) (hblk : blk < w.heap.size) (hsz : zs.length < 4611686018427387904) :
    Calls Tryz.prog 73 #[.slice (some ⟨blk, off, none⟩) zs.length cap] w fun e w' =>
      e = .returned (.tuple #[]) ∧ ∃ n os, w' = grow (putRow (Value.int .i64) (Sort.ahead w n) blk off (zs.mergeSort fun x y => decide (x ≤ y)).toArray) os := Any.slices_Sort_int Tryz.lays189 blk off cap zs w hH hblk hsz
def Tryz.lays114_ren : Go.Shelf.Ren := ⟨fun | 114 => 86 | n => n, fun | 28 => 29 | 3 => 3 | 4 => 4 | 9 => 9 | 20 => 20 | 0 => 0 | n => n, fun | n => n⟩
theorem Tryz.lays114 : Go.Proofs.Lays.n114 Tryz.prog Tryz.lays114_ren := {
  mixed := by kernel_rfl
  f114 := Tryz.func86.trans (congrArg some (by kernel_rfl))
  t0 := Tryz.underlying0
  a0 := Tryz.isAgg0
  z0 := Tryz.sizeOf0
  v0 := Tryz.zeroValue0
  t3 := Tryz.underlying3
  a3 := Tryz.isAgg3
  z3 := Tryz.sizeOf3
  v3 := Tryz.zeroValue3
  t4 := Tryz.underlying4
  a4 := Tryz.isAgg4
  z4 := Tryz.sizeOf4
  v4 := Tryz.zeroValue4
  t9 := Tryz.underlying9
  a9 := Tryz.isAgg9
  z9 := Tryz.sizeOf9
  v9 := Tryz.zeroValue9
  t20 := Tryz.underlying20
  a20 := Tryz.isAgg20
  z20 := Tryz.sizeOf20
  v20 := Tryz.zeroValue20
  t28 := Tryz.underlying29
  a28 := Tryz.isAgg29
  z28 := Tryz.sizeOf29
  v28 := Tryz.zeroValue29 }
open Go.Lib in
theorem Tryz.slices_Min_int (b off n c : Nat) (zs : List Int) (w : World) (hn : 0 < n) (hz : n ≤ zs.length) (hbig : n ≤ 9223372036854775807) (hc : ∀ j, j < zs.length → w.cell? ⟨b, off + j, none⟩ = some (.int .i64 (zs.getD j 0))) :
    Calls Tryz.prog 86 #[.slice (some ⟨b, off, none⟩) n c] w fun e w' => e = .returned (.int .i64 (Lib.minOf (zs.take n))) ∧ w' = w := Any.slices_Min_int Tryz.lays114 b off n c zs w hn hz hbig hc
def Tryz.lays112_ren : Go.Shelf.Ren := ⟨fun | 112 => 74 | n => n, fun | 28 => 29 | 3 => 3 | 4 => 4 | 0 => 0 | n => n, fun | n => n⟩
theorem Tryz.lays112 : Go.Proofs.Lays.n112 Tryz.prog Tryz.lays112_ren := {
  mixed := by kernel_rfl
  f112 := Tryz.func74.trans (congrArg some (by kernel_rfl))
  t0 := Tryz.underlying0
  a0 := Tryz.isAgg0
  z0 := Tryz.sizeOf0
  v0 := Tryz.zeroValue0
  t3 := Tryz.underlying3
  a3 := Tryz.isAgg3
  z3 := Tryz.sizeOf3
  v3 := Tryz.zeroValue3
  t4 := Tryz.underlying4
  a4 := Tryz.isAgg4
  z4 := Tryz.sizeOf4
  v4 := Tryz.zeroValue4
  t28 := Tryz.underlying29
  a28 := Tryz.isAgg29
  z28 := Tryz.sizeOf29
  v28 := Tryz.zeroValue29 }
open Go.RowKit Go.Lib Go.Sort in
theorem Tryz.slices_Reverse_int (blk off cap : Nat) (zs : List Int) (w : World) (hH : Holds (Value.int .i64) w blk off zs.toArray) (hsz : zs.length ≤ 9223372036854775807) :
    Calls Tryz.prog 74 #[.slice (some ⟨blk, off, none⟩) zs.length cap] w fun e w' => e = .returned (.tuple #[]) ∧ ∃ n, w' = putRow (Value.int .i64) (Sort.ahead w n) blk off zs.reverse.toArray := Any.slices_Reverse_int Tryz.lays112 blk off cap zs w hH hsz
open Go.RowKit Go.Lib Go.Sort in
theorem Tryz.slices_Reverse_int_empty (a : Option Addr) (cap : Nat) (w : World) :
    Calls Tryz.prog 74 #[.slice a 0 cap] w fun e w' => e = .returned (.tuple #[]) ∧ w' = w := Any.slices_Reverse_int_empty Tryz.lays112 a cap w
open Go.RowKit Go.Sort in
theorem Tryz.slices_Sort_int_none (p : Option Addr) (cap : Nat) (w : World) :
    Calls Tryz.prog 73 #[.slice p 0 cap] w fun e w' => e = .returned (.tuple #[]) ∧ w' = w := Any.slices_Sort_int_none Tryz.lays189 p cap w
end Go.Proofs

/-
  The program's corners: an iterator that hands over one cycle of the round after another.
-/
namespace Go.Proofs.YtpmojmhamgcfmaaGreat.gl
open Go.ChangeShapes Go.WideShapes Go.ChangeAt Go.RowKit
open Go.Proofs.YtpmojmhamgcfmaaGreat.mem Go.Proofs.YtpmojmhamgcfmaaGreat.ints Go.Proofs.YtpmojmhamgcfmaaGreat.arr Go.Proofs.YtpmojmhamgcfmaaGreat.pm Go.Proofs.YtpmojmhamgcfmaaGreat.permOk Go.Proofs.YtpmojmhamgcfmaaGreat.permOf Go.Proofs.YtpmojmhamgcfmaaGreat.inv Go.Proofs.YtpmojmhamgcfmaaGreat.fns Go.Proofs.YtpmojmhamgcfmaaGreat.sf Go.Proofs.YtpmojmhamgcfmaaGreat.rf
set_option linter.unusedVariables false
set_option maxRecDepth 100000
attribute [local go_sem] Oper.semAt_some

theorem roundIn_any {P : Program} {l : Nat} {f : FuncId} {tmps : Array Value} {assign body : Code} {w : World} {R : Ending → World → Prop} {m : Nat} (n : Nat) (h : RoundIn Fence.wide m P l f tmps assign body w R) : RoundIn Fence.wide n P l f tmps assign body w R :=
  ⟨h.1, fun c cs _ => h.2 c cs (room_wide _)⟩
/-- The state of the walk over the squares. -/
structure Cst (W wr : World) (bg K : Nat) (gs qs : List Int) (C : Nat → List (List Int)) (J : Nat → List Rw → World → Prop) (k D1 : Nat) (ys : List Rw) : Prop where
  g : Arr wr bg (V gs) 62
  a : K < D1 ∧ Arr wr K (V qs) 60
  d : W.heap.size ≤ D1
  d1 : D1 ≤ wr.heap.size
  fst : ys.map Prod.fst = C k
  j : J D1 ys wr
theorem cso_pre (ps : List Int) (n k j : Nat) : cso ps n k <+: cso ps n (k + j) := by
  induction j with
  | zero => exact List.prefix_refl _
  | succ j ih =>
    refine ih.trans ?_
    show _ <+: cso ps n (k + j + 1)
    rw [cso]; split
    · exact List.prefix_refl _
    · exact List.prefix_append _ _
theorem cyc_ext {n : Nat} {q : List Int} (h : Ok q) (l : q.length = n) {k : Nat} (hk : k < n) : cyc (ext q) n (k : Int) = cyc q n (k : Int) := by
  have := h.len
  exact cyc_congr (h.bij' l) (fun i hi => by rw [ext_at (by omega), if_pos (by omega)]) (by omega) (by omega)

set_option maxHeartbeats 4000000 in
theorem corners_seq (r u : List Int) (n bg : Nat) (w : World) (hs : Sf n r u) (hg : Arr w bg (V (gl (ext r) (ext u) n)) 62) :
    Seq Tryz.prog 83 #[.pointer (some ⟨bg, 0, none⟩)] bg (cso (comm r u) n n) w := by
  intro nn m l W J Jx hW hJ hY h0
  have HS := Lib.hid hs; clear hs
  have HB := Lib.hid HS.out.commB
  have hn24 : n ≤ 24 := HS.out.small
  have HA : Hid (ar24 (ext r) (ext u) = ext (comm r u)) := Lib.hid (ar24_ext HS.out)
  have HBE : Hid (Bij n (ext (comm r u))) := Lib.hid (by have := HS.out.comm.1.bijExt; rwa [HS.out.comm.2] at this)
  have HCE := Lib.hid (fun k (hk : k < n) => cyc_ext HS.out.comm.1 HS.out.comm.2 hk)
  have HG := Lib.hid (hg.keep hW hg.lt); clear hg
  have hbg : bg < W.heap.size := HG.out.lt
  have HJ := Lib.hid hJ; have HY := Lib.hid hY; have H0 := Lib.hid h0; clear hJ hY h0 hW
  have f1 : Fence.wide.fn 84 := trivial
  have f2 : Fence.wide.fn 85 := trivial
  have f3 : Fence.wide.fn 86 := trivial
  refine callsIn_wide.2 ((callsIn_wide (n := 9)).1 ?_)
  refine callsIn_of_wp Tryz.func83 rfl trivial ?_ rfl
  simp only [Tryz.ntmps83, List.size_toArray, List.length_cons, List.length_nil, Nat.reduceAdd, Nat.reduceSub, Array.replicate_succ, Array.replicate_zero, List.push_toArray, List.append_toArray, List.nil_append, List.cons_append]
  gi_wp2_with (first | (refine in_load_row rfl 62 _ rfl bg rfl 62 (V (gl (ext r) (ext u) n)).toArray (0, 0) _ HG.out Tryz.underlying62 rfl (size49 (gl_len (ext_len _) (ext_len _) n)) ?_) | (gi_at_call 84; refine (callsIn_wide.2 (around_any (ext r) (ext u) n _ HS.out.r.sq HS.out.u.sq)).mono ?_; rintro e w1 ⟨rfl, b1⟩; rw [HA.out]; have G1 := Lib.hid (HG.out.keep b1 hbg); have B1 := Lib.hid b1; have hs1 := b1.size; clear b1 HG) | (refine in_store_row rfl 60 _ _ rfl w1.heap.size (V (ext (comm r u))).toArray rfl rfl 60 (V zeros).toArray (Arr.new w1 (V zeros) _ rfl) (size_V (ext_len _)) (by simp [V_len, ext_len, zeros]) (one_V _) ?_; generalize hw_ : (w1.alloc (.cells #[.int .i64 0, .int .i64 0, .int .i64 0, .int .i64 0, .int .i64 0, .int .i64 0, .int .i64 0, .int .i64 0, .int .i64 0, .int .i64 0, .int .i64 0, .int .i64 0, .int .i64 0, .int .i64 0, .int .i64 0, .int .i64 0, .int .i64 0, .int .i64 0, .int .i64 0, .int .i64 0, .int .i64 0, .int .i64 0, .int .i64 0, .int .i64 0] 60)).setRow w1.heap.size (V (ext (comm r u))).toArray = w2; have A2 : Hid (Arr w2 w1.heap.size (V (ext (comm r u))) 60) := Lib.hid (by rw [← hw_]; exact (Arr.new w1 (V zeros) _ rfl).row); have b1 : Below w1.heap.size w1 w2 := (by rw [← hw_]; exact arr.below_setRow ((Below.refl _ _).alloc (Nat.le_refl _) _) (Nat.le_refl _) _); have t_ : w1.heap.size + 1 ≤ w2.heap.size := (by rw [← hw_]; simp); clear hw_; replace G1 := Lib.hid (G1.out.keep b1 (by omega)); replace B1 := Lib.hid (B1.out.trans (b1.mono B1.out.size)); clear b1; have cc := gl_count (n := n) (ext_len r) (ext_len u) G1.out))
  gi_loopw [10] (fun i wr => ∃ (k D1 : Nat) (ys : List Rw), k ≤ n ∧ i = .int .i64 k ∧ Cst W wr bg w1.heap.size (gl (ext r) (ext u) n) (ext (comm r u)) (cso (comm r u) n) J k D1 ys) (fun i _ => n - (intOf i).toNat)
  case atStart => exact ⟨0, w2.heap.size, [], Nat.zero_le _, rfl, G1.out, ⟨by omega, A2.out⟩, by omega, Nat.le_refl _, rfl, H0.out w2 B1.out⟩
  case round =>
    obtain ⟨k, D1, ys, hk, rfl, hc⟩ := hrel
    have HC := Lib.hid hc; clear hc
    obtain ⟨hK2, hAK⟩ := HC.out.a
    have AK := Lib.hid hAK; clear hAK
    have hd1 := HC.out.d1
    have hd0 := HC.out.d
    by_cases hlt : k < n
    · have HCK := Lib.hid (HCE.out k hlt)
      have HW := Lib.hid (cyc_way (f := (k : Int)) HB.out (by omega) (by omega))
      have hpos := HW.out.pos
      have hlen : (cyc (comm r u) n (k : Int)).length ≤ n := HW.out.inn.len
      gi_wp2_with (first | (refine in_load_row rfl 60 _ rfl w1.heap.size rfl 60 (V (ext (comm r u))).toArray (0, 0) _ AK.out Tryz.underlying60 rfl (size_V (ext_len _)) ?_) | (gi_at_call 85; refine (callsIn_wide.2 (cycleFrom_any (ext (comm r u)) n k _ (ext_len _) HBE.out hn24 hlt)).mono ?_; rintro e w3 hgv; rw [HCK.out] at hgv; obtain ⟨v3, rfl, o3, b3⟩ := hgv; obtain ⟨P3, c3, rfl⟩ := own_form o3; have O3 := Lib.hid o3; have B3 := Lib.hid b3; have hs3 := b3.size; clear o3 b3))
      have hc4 : (cyc (comm r u) n (k : Int)).length ≤ 9223372036854775807 := by omega
      obtain ⟨g3, off3, rfl, hg3, hg3', hcells⟩ := (Row.of_own O3.out).2.2 hpos
      have HN := Lib.hid (Tryz.slices_Min_int g3 off3 _ c3 (cyc (comm r u) n (k : Int)) w3 hpos (Nat.le_refl _) hc4 (fun j hj => by rw [(hcells j hj).1]; exact V_getD hj))
      rw [List.take_length] at HN
      clear hcells hc4
      by_cases hm : Lib.minOf (cyc (comm r u) n (k : Int)) = (k : Int)
      · have NX := Lib.hid (cso_yes HB.out hlt hm)
        have hm2 : (Lib.minOf (cyc (comm r u) n (k : Int)) == (k : Int)) = true := by rw [hm]; simp
        have HPRE : Hid (ys.map Prod.fst ++ [cyc (comm r u) n (k : Int)] = cso (comm r u) n (k + 1)) := Lib.hid (by rw [HC.out.fst, NX.out])
        obtain ⟨fn, tmps, assign, bd, hy, hR⟩ := HY.out D1 ys (cyc (comm r u) n (k : Int), _) wr w3 hd0 hd1 HC.out.j B3.out O3.out (by rw [HPRE.out]; have := cso_pre (comm r u) n (k + 1) (n - (k + 1)); rwa [show k + 1 + (n - (k + 1)) = n by omega] at this)
        dsimp only at hy
        have HR := Lib.hid hR
        clear hm hR
        gi_wp2_with (gi_at_call 86; refine (callsIn_wide.2 HN.out).mono ?_; rintro e w4 ⟨rfl, rfl⟩)
        have GG := Lib.hid (HC.out.g.keep B3.out HC.out.g.lt)
        have AA := Lib.hid (AK.out.keep B3.out AK.out.lt)
        refine (roundIn_any _ HR.out).mono ?_
        rintro e W' (⟨rfl, hJ', hk'⟩ | ⟨rfl, hJx'⟩)
        · have HJ' := Lib.hid hJ'; have HK := Lib.hid hk'; clear hJ' hk' hy
          have hs4 := HK.out.size
          gi_wp2
          go_roundw
          case rel => exact ⟨k + 1, D1, _, by omega, by go_num, HK.out.box.trans GG.out, ⟨hK2, (HK.out.mid _ hs1 hK2).trans AA.out⟩, hd0, by omega, by rw [List.map_append]; exact HPRE.out, HJ'.out⟩
          case measure => simp [intOf]; omega
        · have HX := Lib.hid hJx'; clear hJx' hy
          gi_wp2
          refine bodyPost_ret (results_none rfl _ _ _) rfl ?_
          refine ⟨⟨_, rfl⟩, .inr ⟨D1, _, ?_, HX.out⟩⟩
          rw [List.map_append]
          have := cso_pre (comm r u) n (k + 1) (n - (k + 1))
          rw [show k + 1 + (n - (k + 1)) = n by omega, ← HPRE.out] at this
          exact this
      · have NX := Lib.hid (cso_no HB.out hlt hm)
        have hm2 : (Lib.minOf (cyc (comm r u) n (k : Int)) == (k : Int)) = false := by simpa using hm
        clear hm
        gi_wp2_with (gi_at_call 86; refine (callsIn_wide.2 HN.out).mono ?_; rintro e w4 ⟨rfl, rfl⟩)
        refine ⟨fun _ h => (by cases h), ?_⟩
        gi_wp2
        go_roundw
        case rel => exact ⟨k + 1, D1, ys, by omega, by go_num, HC.out.g.keep B3.out HC.out.g.lt, ⟨hK2, AK.out.keep B3.out AK.out.lt⟩, hd0, by omega, by rw [NX.out]; exact HC.out.fst, HJ.out _ _ _ _ HC.out.j B3.out⟩
        case measure => simp [intOf]; omega
    · obtain rfl : k = n := by omega
      gi_wp2
      go_end0
      exact ⟨⟨_, rfl⟩, .inl ⟨D1, ys, HC.out.fst, HC.out.j⟩⟩
end Go.Proofs.YtpmojmhamgcfmaaGreat.gl
