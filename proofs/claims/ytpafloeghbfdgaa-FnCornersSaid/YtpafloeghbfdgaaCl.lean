/-
  slices.Collect over an iterator of rows; the program's corners and CornersOf.
-/
import Derived.Test.YtpafloeghbfdgaaIt
import Derived.Test.YtpafloeghbfdgaaCycSpec
namespace Go.Proofs.Ytpafloeghbfdgaa.gl
open Go.ChangeShapes Go.WideShapes Go.ChangeAt Go.RowKit
open Go.Proofs.Ytpafloeghbfdgaa.mem Go.Proofs.Ytpafloeghbfdgaa.ints Go.Proofs.Ytpafloeghbfdgaa.arr Go.Proofs.Ytpafloeghbfdgaa.pm Go.Proofs.Ytpafloeghbfdgaa.permOk Go.Proofs.Ytpafloeghbfdgaa.permOf Go.Proofs.Ytpafloeghbfdgaa.inv Go.Proofs.Ytpafloeghbfdgaa.fns Go.Proofs.Ytpafloeghbfdgaa.sf Go.Proofs.Ytpafloeghbfdgaa.rf Go.Proofs.Ytpafloeghbfdgaa.mat
set_option linter.unusedVariables false
set_option maxRecDepth 100000
attribute [local go_sem] Oper.semAt_some

/-- 'out = append(out, u)' in a round: as wpList_append_one2. -/
theorem in_append_one2 {P : Program} {ops : Array Oper} {rest : List Oper} {o : Oper} {a : Act} {Q : Exit → Act → World → Prop} {m l : Nat} (W : World) (u : Value) (ty : TypeId) (hgd : o.guard = none) (s x : Operand) (t : TypeId)
    (ho : o.op = .call { callee := .builtin .append, args := #[s, x], argTypes := #[t, t] })
    (base : Nat) (e : TypeId) (i : TypeInfo) (z : Value) (bytes size : Nat) (ht : P.underlying t = some (.slice e)) (hi : P.info? e = some i) (hz : i.zero = some z)
    (hsize : i.size = size) (hone : size = 1) (hby : i.bytes = bytes) (hzs : z.cells.size = 1)
    (v : Value) (n : Nat) (xs : List Value) (hs : a.eval s = v) (hown : W.ownsRow base e 1 v n xs)
    (hx : a.eval x = .slice (some ⟨W.heap.size, 0, none⟩) 1 1) (h1 : u.oneCell' = true)
    (hbytes : (n + 1) * bytes ≤ 140737488355328) (hb0 : 0 < bytes) (hbase : base ≤ W.heap.size)
    (h : ∀ v' w', w'.ownsRow base e 1 v' (n + 1) (xs ++ [u]) → W.grownBy w' v.ownBlock → (v'.ownBlock = v.ownBlock ∨ ∃ k, v'.ownBlock = some k ∧ W.heap.size + 1 ≤ k) → wpListIn (Fence.wide.inRound l) m P ops Q rest (a.put o.dst v') w') : wpListIn (Fence.wide.inRound l) m P ops Q (o :: rest) a (W.alloc (.cells #[u] ty)) := by
  refine wpListIn_plain hgd fun K hK => wpIn_of_wp m l (by rw [ho]; intro c q; cases q) ?_
  subst hone
  have h63 : n + 1 ≤ maxLen := by
    have : (n + 1) * 1 ≤ (n + 1) * bytes := Nat.mul_le_mul_left _ hb0
    unfold maxLen; omega
  have hcell : (W.alloc (.cells #[u] ty)).cell? ⟨W.heap.size, 0, none⟩ = some u := by simp
  have hc : ∀ j q, [u][j]? = some q → (W.alloc (.cells #[u] ty)).cell? ((⟨W.heap.size, 0, none⟩ : Addr).add j) = some q := by
    intro j q hj
    match j, hj with
    | 0, hj => simp at hj; subst hj; simp [Addr.add]
  have hu : ∀ q ∈ [u], q.oneCell' = true := by intro q hq; simp at hq; subst hq; exact h1
  obtain ⟨v', w', hr, own', grown', _⟩ := run_append_own (P := P) (W.alloc (.cells #[u] ty)) base t o.type e i z 1 bytes ht hi hz hsize hby hzs (by decide) v n xs (hown.alloc _) ⟨W.heap.size, 0, none⟩ 1 1 [u] rfl hc hu h63 hbytes (by simp; omega)
  have hwh := one_where (P := P) (W.alloc (.cells #[u] ty)) base t o.type e i z bytes ht hi hz hsize hby hzs v n xs (hown.alloc _) ⟨W.heap.size, 0, none⟩ u hcell (by simp [Addr.add]) h1 hbytes h63 hr
  have hgo := h v' w' own' (grown_trans (World.grownBy_alloc W _ _) grown') (by simpa using hwh)
  simp [Oper.wp, execOp, ho, resolve, invoke, builtin, hs, hx, hr]
  exact hK _ _ hgo
theorem Seq.later {P : Program} {gf : Nat} {lb : Array Value} {bg : Nat} {L : List (List Int)} {w w' : World} (h : rf.Seq P gf lb bg L w) (hb : Below w.heap.size w w') : rf.Seq P gf lb bg L w' :=
  fun n m l W J Jx hW => h n m l W J Jx (hb.trans (hW.mono hb.size))
/-- What the appending has come to: the boxed slice, its rows. -/
def Ap (w0 : World) (S D1 : Nat) (pre : List Rw) (W : World) : Prop :=
  S + 2 ≤ D1 ∧ D1 ≤ W.heap.size ∧ Below w0.heap.size w0 W ∧ ∃ v, Arr W w0.heap.size [v] 28 ∧ Mg W D1 D1 w0.heap.size v (pre.map Prod.fst)
theorem Ap.out {w0 A B : World} {S D1 : Nat} {pre : List Rw} (h : Ap w0 S D1 pre A) (hS : w0.heap.size < S) (ho : Out S (S + 2) A B) : Ap w0 S D1 pre B := by
  obtain ⟨h1, h2, h3, v, h4, h5⟩ := h
  have hs := ho.size
  exact ⟨h1, by omega, h3.trans (ho.below (by omega) (by have := h3.size; omega)), v, (ho.block _ (by omega) (.inl hS)).trans h4, h5.keep hs (Nat.le_refl _) (by omega) (fun b q1 q2 _ => ho.block b q2 (.inr (by omega)))⟩
theorem infoII' : (Try.prog.info? 23).map (fun i => (i.zero, i.size, i.bytes)) = some (some (.slice none 0 0), 1, 24) := by kernel_rfl

set_option maxHeartbeats 4000000 in
theorem appendSeq_any (gf : Nat) (lb : Array Value) (bg : Nat) (L : List (List Int)) (w : World) (hL : L.length ≤ 1048576) (hne : ∀ c ∈ L, 0 < c.length) (eg : ∀ args w, (callFunc gf args).run Try.prog w = .ok (.enter gf args) w) (hq : rf.Seq Try.prog gf lb bg L w) (hbg : bg < w.heap.size) :
    Calls Try.prog 88 #[.slice none 0 0, .func (.func gf) #[] lb] w (MGives L w) := by
  obtain ⟨i0, hi0, hz0, hz1, hz2⟩ := info_parts infoII'
  refine (callsIn_wide (n := 9)).1 ?_
  refine callsIn_of_wp_marks Try.func88 rfl trivial ?_ rfl
  simp only [Try.ntmps88, List.size_toArray, List.length_cons, List.length_nil, Nat.reduceAdd, Nat.reduceSub, Array.replicate_succ, Array.replicate_zero, List.push_toArray, List.append_toArray, List.nil_append, List.cons_append]
  gi_wp2
  refine range_rows (L := L) (bg := bg) (gf := gf) (lb := lb) rfl rfl eg (Seq.later hq ((Below.refl _ _).alloc (Nat.le_refl _) _)) (by simp; omega) (fun D1 pre W => Ap w (w.heap.size + 1) D1 pre W) (fun _ _ _ => False)
    (fun D1 pre A B h ho => Ap.out h (Nat.lt_succ_self _) (by simpa using ho)) (fun _ _ _ _ h _ => h.elim) ?start (fun x => { tmps := #[.slice none 0 0, .func (.func gf) #[] lb, .pointer (some ⟨w.heap.size, 0, none⟩), undef, .slice none 0 0, x, .func (.func gf) #[] lb, x, undef, undef, undef, undef, undef], defers := [] }) ?assign ?body ?done ?stop
  case start =>
    intro W' hb hs
    simp at hs
    exact ⟨by omega, Nat.le_refl _, ((Below.refl _ _).alloc (Nat.le_refl _) _).trans (hb.mono (by simp)), _, (Arr.new w [.slice none 0 0] 28 rfl).keep hb (by simp), Mg.nil _ _ _ _⟩
  case assign =>
    intro l m x W K hK
    gi_wp2
    exact hK
  case body =>
    rintro m D1 pre x W0 W1 hD hD0 hI ho hx hpre
    simp only [World.size_alloc] at hD ho ⊢
    obtain ⟨xs, xv⟩ := x
    have hpl : pre.length + 1 ≤ L.length := by have := hpre.length_le; simpa using this
    have hx0 : 0 < xs.length := hne xs (hpre.subset (by simp))
    obtain ⟨_, hz1', B1, _, A1, _⟩ := Ap.out hI (Nat.lt_succ_self _) ho
    obtain ⟨_, _, _, v, A0, M0⟩ := hI
    obtain ⟨C, cc, rfl⟩ := M0.form
    have A1 : Arr W1 w.heap.size [.slice C (pre.map Prod.fst).length cc] 28 := (ho.block _ A0.lt (.inl (Nat.lt_succ_self _))).trans A0
    obtain ⟨hs, bl, own, hh, ne⟩ := M0
    have hown : W1.ownsRow D1 23 1 (.slice C (pre.map Prod.fst).length cc) (pre.map Prod.fst).length hs := by
      refine ⟨own.1, ?_⟩
      rcases own.2 with h0 | ⟨g, cap, cur, q1, q2, q3, q4⟩
      · exact .inl h0
      · exact .inr ⟨g, cap, cur, q1, q2, (ho.block g (Array.getElem?_eq_some_iff.1 q3).1 (.inr (by omega))).trans q3, q4⟩
    have OWN := Lib.hid hown
    have VLT : Hid (∀ b, (Value.slice C (pre.map Prod.fst).length cc).ownBlock = some b → D1 ≤ b ∧ b < W0.heap.size) := Lib.hid (fun b e => own.lt b e)
    have hxr : W1.ownsRow W0.heap.size 3 1 xv xs.length (V xs) := hx
    obtain ⟨XA, xc, rfl⟩ := own_form hxr
    obtain ⟨g, hg0, hrow⟩ := own_row (xs := V xs) (by rw [V_len]; exact hxr) (by rw [V_len]; exact hx0)
    rw [V_len] at hrow
    have HROW := Lib.hid hrow; have HH := Lib.hid hh; have NE := Lib.hid ne; have HO := Lib.hid ho; have HA := Lib.hid A1; have HB := Lib.hid B1
    have hml : (pre.map Prod.fst).length = pre.length := by simp
    have hc := A1.cell (k := 0) rfl
    have hbS := A1.lt
    have hso := ho.size
    have PM : Hid ((pre ++ [(xs, Value.slice XA xs.length xc)]).map Prod.fst = pre.map Prod.fst ++ [xs]) := Lib.hid (by simp)
    have ML : (pre.map Prod.fst).length ≤ 1048576 := by omega
    clear hx hxr hrow hh ne ho A0 A1 B1 own hown hml hpre
    generalize pre.map Prod.fst = ps at *
    gi_wp2_with (gi_at_builtin; refine in_append_one2 W1 _ _ rfl _ _ 28 rfl D1 23 i0 _ 24 1 Try.underlying28 hi0 hz0 hz1 rfl hz2 rfl _ _ _ rfl OWN.out rfl rfl ?c4 (by decide) (by omega) ?_)
    case c4 => omega
    intro v' w' ho' hg hb
    obtain ⟨C', cc', rfl⟩ := own_form ho'
    have HN : Hid (Mg w' D1 D1 w.heap.size (.slice C' (ps.length + 1) cc') (ps ++ [xs])) := Lib.hid (Mg.push HH.out NE.out hso (fun b q1 q2 => HO.out.block b q2 (.inr (by omega))) hD0 (by omega) HROW.out hg0 (fun b e => (VLT.out b e).2) rfl ho' hg hb)
    have A2 : Arr w' w.heap.size [.slice C ps.length cc] 28 := (hg.block _ hbS (fun e => by have := (VLT.out _ e.symm).1; omega)).trans HA.out
    have HA2 := Lib.hid A2
    have hgs := hg.size
    have hc2 := A2.cell (k := 0) rfl
    have hf2 := A2.frozen 0
    have HG := Lib.hid hg
    have HK : Hid (∀ k, k < D1 → w'.heap[k]? = W1.heap[k]?) := Lib.hid (fun k q => HG.out.block k (by omega) (fun e => by have := (VLT.out _ e.symm).1; omega))
    clear hg hb ho' A2 hc
    gi_wp2
    have HM : Hid (∀ k, k ≠ w.heap.size → (w'.setCell ⟨w.heap.size, 0, none⟩ (.slice C' (ps.length + 1) cc')).heap[k]? = w'.heap[k]?) := Lib.hid (fun k q => Below.heap_setCell _ _ _ _ q)
    refine ⟨⟨by simpa [World.setCell] using hgs, (HM.out _ (by omega)).trans (HK.out _ (by omega)), fun k q1 q2 => (HM.out _ (by omega)).trans (HK.out _ q2)⟩, ?_⟩
    refine ⟨hD, by simp [World.setCell]; omega, ?_, .slice C' (ps.length + 1) cc', ?_, ?_⟩
    · exact (HB.out.trans ((Below.refl _ _).grown HG.out HB.out.size (fun b e => by have := (VLT.out b e).1; omega))).setCell (Nat.le_refl _) _
    · have := HA2.out.set_ 0 (.slice C' (ps.length + 1) cc'); simpa using this
    · rw [PM.out]
      exact HN.out.keep (by simp [World.setCell]) (Nat.le_refl _) (by omega) (fun b q1 q2 _ => HM.out _ (by omega))
  case done =>
    rintro D1 ys W rfl hI hd
    simp only [World.size_alloc] at hd ⊢
    obtain ⟨h1, h2, hB, v, hA, hM⟩ := hI
    obtain ⟨C, cc, rfl⟩ := hM.form
    have hc := hA.cell (k := 0) rfl
    have HB := Lib.hid hB; have HM := Lib.hid hM; clear hA hM hB
    gi_wp2
    refine ⟨by simp, .inl ⟨_, _, rfl, run_takeDeferred hd, ?_⟩⟩
    refine ⟨_, results_tmp rfl _ _ _, C, cc, by simp, ?_, ?_⟩
    · have := (HM.out.keep (w' := W.putObj (w.heap.size + 1) (.deferred none)) (by simp) (Nat.le_refl _) (by omega) (fun b q1 q2 _ => World.putObj_heap_other (by omega))).mat (B := w.heap.size) (by omega) (by omega)
      exact this
    · exact HB.out.trans ((out_put (lo := w.heap.size + 1) (hi := w.heap.size + 2) _ (Nat.le_refl _) (by omega)).below (by omega) HB.out.size)
  case stop => exact fun _ _ _ _ h _ => h.elim

set_option maxHeartbeats 1000000 in
theorem collect_any (gf : Nat) (lb : Array Value) (bg : Nat) (L : List (List Int)) (w : World) (hL : L.length ≤ 1048576) (hne : ∀ c ∈ L, 0 < c.length) (eg : ∀ args w, (callFunc gf args).run Try.prog w = .ok (.enter gf args) w) (hq : rf.Seq Try.prog gf lb bg L w) (hbg : bg < w.heap.size) :
    Calls Try.prog 59 #[.func (.func gf) #[] lb] w (MGives L w) := by
  have H1 := Lib.hid (appendSeq_any gf lb bg L w hL hne eg hq hbg)
  clear hq eg hne
  go_enter Try.func59, Try.ntmps59
  go_wp2_with fail
  refine H1.out.mono ?_
  rintro e w1 ⟨A, c, rfl, hm, hb⟩
  have HM := Lib.hid hm; have HB := Lib.hid hb; clear hm hb
  go_wp2_with fail
  go_ret
  exact ⟨A, c, rfl, HM.out, HB.out⟩
set_option maxHeartbeats 1000000 in
theorem corners_any (p q : List Int) (n : Nat) (w : World) (hp : p.length = 24) (hq : q.length = 24) :
    Calls Try.prog 60 #[.agg (V (gl p q n)).toArray] w fun e w' => e = .returned (.func (.func 89) #[] #[.pointer (some ⟨w.heap.size, 0, none⟩)]) ∧ w' = w.alloc (.cells (V (gl p q n)).toArray 63) := by
  go_enter Try.func60, Try.ntmps60
  go_wp2
  go_ret
  exact ⟨rfl, rfl⟩
theorem corners_enters : ∀ args w, (callFunc 89 args).run Try.prog w = .ok (.enter 89 args) w := enters_of Try.func89 (by kernel_rfl) rfl
end Go.Proofs.Ytpafloeghbfdgaa.gl
