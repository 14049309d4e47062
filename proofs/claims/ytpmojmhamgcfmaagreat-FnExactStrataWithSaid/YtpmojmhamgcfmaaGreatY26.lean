import Derived.Test.YtpmojmhamgcfmaaGreatY25
import Derived.Sort.Grow
import Derived.IntWalk
import Derived.Test.YtpmojmhamgcfmaaGreatY21
import Derived.Test.YtpmojmhamgcfmaaGreatY23
import Derived.Test.YtpmojmhamgcfmaaGreatY07
import Derived.Test.YtpmojmhamgcfmaaGreatY22
/-
  The program's angles: the lengths of the corners, sorted, turned round; AnglesOf.
-/
namespace Go.Proofs.YtpmojmhamgcfmaaGreat.gl
open Go.ChangeShapes Go.WideShapes Go.ChangeAt Go.RowKit
open Go.Proofs.YtpmojmhamgcfmaaGreat.mem Go.Proofs.YtpmojmhamgcfmaaGreat.ints Go.Proofs.YtpmojmhamgcfmaaGreat.arr Go.Proofs.YtpmojmhamgcfmaaGreat.pm Go.Proofs.YtpmojmhamgcfmaaGreat.permOk Go.Proofs.YtpmojmhamgcfmaaGreat.permOf Go.Proofs.YtpmojmhamgcfmaaGreat.inv Go.Proofs.YtpmojmhamgcfmaaGreat.fns Go.Proofs.YtpmojmhamgcfmaaGreat.sf Go.Proofs.YtpmojmhamgcfmaaGreat.mat Go.Proofs.YtpmojmhamgcfmaaGreat.rf
set_option linter.unusedVariables false
set_option maxRecDepth 100000
open Go.Sort
attribute [local go_sem] Oper.semAt_some

theorem holds_row {w : World} {base g cap : Nat} {e : TypeId} {l : List Int} (h : w.ownsRow base e 1 (.slice (some ⟨g, 0, none⟩) l.length cap) l.length (V l)) : Go.Sort.Holds (Value.int .i64) w g 0 l.toArray := by
  intro j hj
  have hj' : j < l.length := by simpa using hj
  rw [Nat.zero_add]
  refine ⟨?_, h.frozenAt j⟩
  rw [h.cellAt j (by omega), V_getD hj']
  simp [List.getD, hj']
theorem put_heap {w : World} {g n : Nat} {os : Array Obj} {cur : Array Value} {e : TypeId} {fr : Nat × Nat} (d : Array Int) (hb : w.heap[g]? = some (.cells cur e fr)) :
    (grow (putRow (Value.int .i64) (Sort.ahead w n) g 0 d) os).heap[g]? = some (.cells (putCells (Value.int .i64) 0 d cur) e fr) := by
  have hg : g < w.heap.size := (Array.getElem?_eq_some_iff.1 hb).1
  rw [heap_grow_old _ _ (by simpa using hg)]
  simp [putRow, mapBlock, Sort.ahead, Array.getElem?_modify, hb, onCells]
theorem put_grown {w : World} {g n : Nat} {os : Array Obj} (d : Array Int) : w.grownBy (grow (putRow (Value.int .i64) (Sort.ahead w n) g 0 d) os) (some g) := by
  refine ⟨rfl, rfl, rfl, by simp, fun k hk hne => ?_⟩
  rw [heap_grow_old _ _ (by simpa using hk)]
  have : g ≠ k := fun e => hne (by rw [e])
  simp [putRow, mapBlock, Sort.ahead, Array.getElem?_modify, this]
theorem put_own {w : World} {base g cap n : Nat} {e : TypeId} {os : Array Obj} {l m : List Int} (hl : m.length = l.length) (h : w.ownsRow base e 1 (.slice (some ⟨g, 0, none⟩) l.length cap) l.length (V l)) :
    (grow (putRow (Value.int .i64) (Sort.ahead w n) g 0 m.toArray) os).ownsRow base e 1 (.slice (some ⟨g, 0, none⟩) m.length cap) m.length (V m) := by
  rcases h.2 with ⟨h0, _⟩ | ⟨g', cap', cur, q1, q2, q3, q4, q5, q6, q7⟩
  · cases h0
  · injection q1 with e1 e2 e3
    injection e1 with e1
    injection e1 with e1
    subst e1; subst e3
    refine ⟨by simp [V], .inr ⟨g, cap, _, by rw [hl], q2, put_heap _ q3, by omega, q5, by simp [putCells, q6], ?_⟩⟩
    rw [Nat.mul_one]
    apply List.ext_getElem?
    intro j
    by_cases hj : j < m.length
    · rw [List.getElem?_take_of_lt hj, Array.getElem?_toList]
      have : j < cur.size := by omega
      simp [putCells, hj, this, V]
    · rw [List.getElem?_take_eq_none (by omega), List.getElem?_eq_none (by simp [V]; omega)]
theorem grow_none (w : World) : grow w #[] = w := by simp [grow]
theorem sort_desc (l : List Int) : (l.mergeSort fun x y => decide (x ≤ y)).reverse = sortD l := by
  have h1 : (l.mergeSort fun x y => decide (x ≤ y)).Pairwise (fun x y => decide (x ≤ y) = true) := List.pairwise_mergeSort (fun a b c => by simp; omega) (fun a b => by simp; omega) l
  refine List.Perm.eq_of_pairwise (le := fun a b => b ≤ a) (fun a b _ _ h1 h2 => by omega) ?_ (sortD_desc l) ((List.reverse_perm _).trans ((List.mergeSort_perm _ _).trans (sortD_perm l).symm))
  rw [List.pairwise_reverse]
  exact h1.imp (fun {a b} h => by simpa using h)
/-- What the counting of the corners has come to. -/
def Al (w0 : World) (S D1 : Nat) (pre : List Rw) (W : World) : Prop :=
  S + 2 ≤ D1 ∧ D1 ≤ W.heap.size ∧ Below w0.heap.size w0 W ∧ ∃ v, Arr W (w0.heap.size + 1) [v] 29 ∧ W.ownsRow D1 3 1 v (lensF (pre.map Prod.fst)).length (V (lensF (pre.map Prod.fst)))
theorem own_out {A B : World} {base S : Nat} {e : TypeId} {v : Value} {n : Nat} {xs : List Value} (h : A.ownsRow base e 1 v n xs) (hS : S + 2 ≤ base) (ho : Out S (S + 2) A B) : B.ownsRow base e 1 v n xs := by
  refine ⟨h.1, ?_⟩
  rcases h.2 with h0 | ⟨g, cap, cur, q1, q2, q3, q4⟩
  · exact .inl h0
  · exact .inr ⟨g, cap, cur, q1, q2, (ho.block g (Array.getElem?_eq_some_iff.1 q3).1 (.inr (by omega))).trans q3, q4⟩
theorem Al.out {w0 A B : World} {S D1 : Nat} {pre : List Rw} (h : Al w0 S D1 pre A) (hS : w0.heap.size + 1 < S) (ho : Out S (S + 2) A B) : Al w0 S D1 pre B := by
  obtain ⟨h1, h2, h3, v, h4, h5⟩ := h
  have hs := ho.size
  exact ⟨h1, by omega, h3.trans (ho.below (by omega) (by have := h3.size; omega)), v, (ho.block _ h4.lt (.inl hS)).trans h4, own_out h5 h1 ho⟩

set_option maxHeartbeats 4000000 in
theorem angles_any (r u : List Int) (n : Nat) (w : World) (hs : Sf n r u) :
    Calls Tryz.prog 53 #[.agg (V (gl (ext r) (ext u) n)).toArray] w (Gives (sortD (lensF (cso (comm r u) n n))) w) := by
  obtain ⟨i0, hi0, hz0, hz1, hz2⟩ := info_parts infoI
  have HS := Lib.hid hs; clear hs
  have hL1 : 0 < (cso (comm r u) n n).length := by
    have h1 := cso_len HS.out.commB; have h2 := HS.out.pos
    cases q : cso (comm r u) n n with
    | nil => rw [q] at h1; simp at h1; omega
    | cons => simp
  have hL2 : (cso (comm r u) n n).length ≤ 1048576 := by have := cso_le HS.out.commB; have := HS.out.small; omega
  have SQ0 := Lib.hid (fun ws hg => corners_seq r u n (w.heap.size + 2) ws HS.out hg)
  generalize cso (comm r u) n n = L at *
  have f1 : Fence.wide.fn 72 := trivial
  have f2 : Fence.wide.fn 73 := trivial
  have f3 : Fence.wide.fn 74 := trivial
  refine (callsIn_wide (n := 9)).1 ?_
  refine callsIn_of_wp_marks Tryz.func53 rfl trivial ?_ rfl
  simp only [Tryz.ntmps53, List.size_toArray, List.length_cons, List.length_nil, Nat.reduceAdd, Nat.reduceSub, Array.replicate_succ, Array.replicate_zero, List.push_toArray, List.append_toArray, List.nil_append, List.cons_append]
  have A0 : Hid (Arr ((w.alloc (.cells (V (gl (ext r) (ext u) n)).toArray 62)).alloc (.cells #[.slice none 0 0] 29)) w.heap.size (V (gl (ext r) (ext u) n)) 62) := Lib.hid ((Arr.new w _ _ rfl).alloc _)
  gi_wp2_with (first | (refine in_load_row rfl 62 _ rfl w.heap.size rfl 62 (V (gl (ext r) (ext u) n)).toArray (0, 0) _ A0.out Tryz.underlying62 rfl (size49 (gl_len (ext_len _) (ext_len _) n)) ?_) | (gi_at_call 72; refine (callsIn_wide.2 (corners_any (ext r) (ext u) n _ (ext_len _) (ext_len _))).mono ?_; rintro e w' ⟨rfl, rfl⟩))
  generalize hws : ((w.alloc (.cells (V (gl (ext r) (ext u) n)).toArray 62)).alloc (.cells #[.slice none 0 0] 29)).alloc (.cells (V (gl (ext r) (ext u) n)).toArray 62) = ws

  have HZ : Hid (ws.heap.size = w.heap.size + 3) := Lib.hid (by rw [← hws]; simp)
  have BW : Hid (Below w.heap.size w ws) := Lib.hid (by rw [← hws]; exact (((Below.refl _ _).alloc (Nat.le_refl _) _).alloc (by simp) _).alloc (by simp <;> omega) _)
  have AW : Hid (Arr ws (w.heap.size + 1) [.slice none 0 0] 29) := Lib.hid (by rw [← hws]; exact (Arr.new _ [.slice none 0 0] _ (by simp)).alloc _)
  have AG : Hid (Arr ws (w.heap.size + 2) (V (gl (ext r) (ext u) n)) 62) := Lib.hid (by rw [← hws]; exact Arr.new _ _ _ (by simp))
  clear hws A0
  refine range_rows (L := L) (bg := w.heap.size + 2) (gf := 83) (lb := #[.pointer (some ⟨w.heap.size + 1 + 1, 0, none⟩)]) rfl rfl corners_enters (SQ0.out ws AG.out) (by have := HZ.out; omega) (fun D1 pre W => Al w ws.heap.size D1 pre W) (fun _ _ _ => False)
    (fun D1 pre A B h ho => Al.out h (by have := HZ.out; omega) ho) (fun _ _ _ _ h _ => h.elim) ?start (fun x => { tmps := #[.agg (V (gl (ext r) (ext u) n)).toArray, .pointer (some ⟨w.heap.size, 0, none⟩), .slice none 0 0, .pointer (some ⟨w.heap.size + 1, 0, none⟩), x, .agg (V (gl (ext r) (ext u) n)).toArray, .func (.func 83) #[] #[.pointer (some ⟨w.heap.size + 1 + 1, 0, none⟩)], x, undef, undef, undef, undef, undef, undef, undef, undef, undef, undef], defers := [] }) ?assign ?body ?done ?stop
  case start =>
    intro W' hb hs
    exact ⟨hs, Nat.le_refl _, BW.out.trans (hb.mono BW.out.size), _, AW.out.keep hb (by have := HZ.out; omega), ⟨rfl, .inl ⟨rfl, rfl⟩⟩⟩
  case assign =>
    intro l m x W K hK
    gi_wp2
    exact hK
  case body =>
    rintro m D1 pre x W0 W1 hD hD0 hI ho hx hpre
    obtain ⟨xs, xv⟩ := x
    have hpl : pre.length + 1 ≤ L.length := by have := hpre.length_le; simpa using this
    obtain ⟨_, hD1, B1, v, A1, own⟩ := Al.out hI (by have := HZ.out; omega) ho
    obtain ⟨C, cc, rfl⟩ := own_form own
    have hxr : W1.ownsRow W0.heap.size 3 1 xv xs.length (V xs) := hx
    obtain ⟨XA, xc, rfl⟩ := own_form hxr
    have OWN := Lib.hid own; have HA := Lib.hid A1; have HB := Lib.hid B1
    have VLT : Hid (∀ b, (Value.slice C (lensF (pre.map Prod.fst)).length cc).ownBlock = some b → D1 ≤ b ∧ b < W1.heap.size) := Lib.hid (fun b e => own.lt b e)
    have PM : Hid (lensF ((pre ++ [(xs, Value.slice XA xs.length xc)]).map Prod.fst) = lensF (pre.map Prod.fst) ++ [(xs.length : Int)]) := Lib.hid (by simp [lensF])
    have ML : (lensF (pre.map Prod.fst)).length ≤ 1048576 := by simp [lensF]; omega
    have hc := A1.cell (k := 0) rfl
    have hbS := A1.lt
    have hz3 : w.heap.size + 3 ≤ ws.heap.size := by have := HZ.out; omega
    have hz4 : ws.heap.size ≤ w.heap.size + 3 := by have := HZ.out; omega
    clear hx hxr ho hI own A1 B1 hpre
    generalize lensF (pre.map Prod.fst) = ls at *
    gi_wp2_with (gi_at_builtin; refine in_append_one2 W1 _ _ rfl _ _ 29 rfl D1 3 i0 _ 8 1 Tryz.underlying29 hi0 hz0 hz1 rfl hz2 rfl _ _ _ rfl OWN.out rfl rfl ?c4 (by decide) (by omega) ?_)
    case c4 => omega
    intro v' w' ho' hg hb
    obtain ⟨C', cc', rfl⟩ := own_form ho'
    have HN : Hid (w'.ownsRow D1 3 1 (.slice C' (ls.length + 1) cc') (ls ++ [(xs.length : Int)]).length (V (ls ++ [(xs.length : Int)]))) := Lib.hid (by
      have e : V (ls ++ [(xs.length : Int)]) = V ls ++ [.int .i64 (xs.length : Int)] := by simp [V]
      rw [e]; simpa using ho')
    have A2 : Arr w' (w.heap.size + 1) [.slice C ls.length cc] 29 := (hg.block _ hbS (fun e => by have := (VLT.out _ e.symm).1; omega)).trans HA.out
    have HA2 := Lib.hid A2
    have hgs := hg.size
    have hc2 := A2.cell (k := 0) rfl
    have hf2 := A2.frozen 0
    have HG := Lib.hid hg
    have HK : Hid (∀ k, k < D1 → w'.heap[k]? = W1.heap[k]?) := Lib.hid (fun k q => HG.out.block k (by omega) (fun e => by have := (VLT.out _ e.symm).1; omega))
    clear hg hb ho' A2 hc
    gi_wp2
    have HM : Hid (∀ k, k ≠ w.heap.size + 1 → (w'.setCell ⟨w.heap.size + 1, 0, none⟩ (.slice C' (ls.length + 1) cc')).heap[k]? = w'.heap[k]?) := Lib.hid (fun k q => Below.heap_setCell _ _ _ _ q)
    refine ⟨⟨by simpa [World.setCell] using hgs, (HM.out _ (by omega)).trans (HK.out _ (by omega)), fun k q1 q2 => (HM.out _ (by omega)).trans (HK.out _ q2)⟩, ?_⟩
    refine ⟨hD, by simp [World.setCell]; omega, ?_, .slice C' (ls.length + 1) cc', ?_, ?_⟩
    · exact (HB.out.trans ((Below.refl _ _).grown HG.out HB.out.size (fun b e => by have := (VLT.out b e).1; omega))).setCell (by simp) _
    · have := HA2.out.set_ 0 (.slice C' (ls.length + 1) cc'); simpa using this
    · rw [PM.out]
      refine ⟨HN.out.1, ?_⟩
      rcases HN.out.2 with h0 | ⟨g, cap, cur, q1, q2, q3, q4⟩
      · exact .inl h0
      · exact .inr ⟨g, cap, cur, q1, q2, (HM.out g (by omega)).trans q3, q4⟩
  case done =>
    rintro D1 ys W rfl hI hd
    obtain ⟨h1, h2, hB, v, hA, own⟩ := hI
    have hl1 : (lensF (ys.map Prod.fst)).length ≤ 1048576 := by simp [lensF]; simpa using hL2
    have hl0 : 0 < (lensF (ys.map Prod.fst)).length := by simp [lensF]; simpa using hL1
    clear SQ0 hL1 hL2
    generalize lensF (ys.map Prod.fst) = ls at *
    obtain ⟨C, cc, rfl⟩ := own_form own
    obtain ⟨g, rfl⟩ : ∃ g, C = some ⟨g, 0, none⟩ := by
      rcases own.2 with ⟨_, hn0⟩ | ⟨g, cap, cur, q1, _⟩
      · omega
      · injection q1 with q1; exact ⟨g, q1⟩
    obtain ⟨hg1, hg2⟩ := own.lt g rfl
    have hz3 : w.heap.size + 3 ≤ ws.heap.size := by have := HZ.out; omega
    have hc := hA.cell (k := 0) rfl
    have CS := Lib.hid (Tryz.slices_Sort_int g 0 cc ls W (holds_row own) hg2 (by omega))
    have OWN := Lib.hid own; have HA := Lib.hid hA; have HB := Lib.hid hB; have HD := Lib.hid hd
    clear own hA hB hd
    gi_wp2_with (gi_at_call 73; refine (callsIn_wide.2 CS.out).mono ?_; rintro e w1 ⟨rfl, nn, os, hw1⟩; have O1 : Hid (w1.ownsRow D1 3 1 (.slice (some ⟨g, 0, none⟩) (ls.mergeSort fun x y => decide (x ≤ y)).length cc) (ls.mergeSort fun x y => decide (x ≤ y)).length (V (ls.mergeSort fun x y => decide (x ≤ y)))) := Lib.hid (by rw [hw1]; exact put_own (by simp) OWN.out); have G1 : W.grownBy w1 (some g) := (by rw [hw1]; exact put_grown _); clear hw1; have hs1 := G1.size; have A1 : Arr w1 (w.heap.size + 1) [.slice (some ⟨g, 0, none⟩) ls.length cc] 29 := (G1.block _ HA.out.lt (by simp; omega)).trans HA.out; have D2 : w1.heap[ws.heap.size]? = some (.deferred (some [])) := (G1.block _ (by omega) (by simp; omega)).trans HD.out; have HA1 := Lib.hid A1; have HD1 := Lib.hid D2; have HB1 := Lib.hid (HB.out.trans ((Below.refl _ _).grown G1 HB.out.size (fun b e => by injection e with e; omega))); have hc1 := A1.cell (k := 0) rfl; have CR := Tryz.slices_Reverse_int g 0 cc (ls.mergeSort fun x y => decide (x ≤ y)) w1 (holds_row O1.out) (by simp; omega); rw [List.length_mergeSort] at CR; have CRH := Lib.hid CR; clear CR G1 A1 D2 hc)
    refine (callsIn_wide.2 CRH.out).mono ?_
    rintro e w2 ⟨rfl, nn2, hw2⟩
    have O2 : Hid (w2.ownsRow D1 3 1 (.slice (some ⟨g, 0, none⟩) ls.length cc) ls.length (V (sortD ls))) := Lib.hid (by
      have h := put_own (n := nn2) (os := #[]) (m := (ls.mergeSort fun x y => decide (x ≤ y)).reverse) (by simp) O1.out
      rw [grow_none, ← hw2, sort_desc, sortD_len] at h
      exact h)
    have G2 : w1.grownBy w2 (some g) := by
      rw [hw2]
      have h := put_grown (w := w1) (g := g) (n := nn2) (os := #[]) (ls.mergeSort fun x y => decide (x ≤ y)).reverse.toArray
      rwa [grow_none] at h
    clear hw2
    have hs2 := G2.size
    have A2 : Arr w2 (w.heap.size + 1) [.slice (some ⟨g, 0, none⟩) ls.length cc] 29 := (G2.block _ HA1.out.lt (by simp; omega)).trans HA1.out
    have D2 : Hid (w2.heap[ws.heap.size]? = some (.deferred (some []))) := Lib.hid ((G2.block _ (by omega) (by simp; omega)).trans HD1.out)
    have HB2 := Lib.hid (HB1.out.trans ((Below.refl _ _).grown G2 HB1.out.size (fun b e => by injection e with e; omega)))
    have hc2 := A2.cell (k := 0) rfl
    clear G2 A2 hc1 CRH
    gi_wp2
    refine ⟨by simp, .inl ⟨_, _, rfl, run_takeDeferred D2.out, ?_⟩⟩
    refine ⟨_, results_tmp rfl _ _ _, _, rfl, ?_, ?_⟩
    · rw [sortD_len]
      exact own_base (own_out O2.out h1 (out_put (lo := ws.heap.size) (hi := ws.heap.size + 2) _ (Nat.le_refl _) (by omega))) (by omega)
    · exact HB2.out.trans ((out_put (lo := ws.heap.size) (hi := ws.heap.size + 2) _ (Nat.le_refl _) (by omega)).below (by omega) HB2.out.size)
  case stop => exact fun _ _ _ _ h _ => h.elim
end Go.Proofs.YtpmojmhamgcfmaaGreat.gl

/-
  Contracts of the model's GenusOf and IsRegularCorner.
-/
namespace Go.Proofs.YtpmojmhamgcfmaaGreat.gl
open Go.ChangeShapes Go.WideShapes Go.ChangeAt Go.RowKit
open Go.Proofs.YtpmojmhamgcfmaaGreat.mem Go.Proofs.YtpmojmhamgcfmaaGreat.ints Go.Proofs.YtpmojmhamgcfmaaGreat.arr Go.Proofs.YtpmojmhamgcfmaaGreat.pm Go.Proofs.YtpmojmhamgcfmaaGreat.permOk Go.Proofs.YtpmojmhamgcfmaaGreat.permOf Go.Proofs.YtpmojmhamgcfmaaGreat.inv Go.Proofs.YtpmojmhamgcfmaaGreat.fns Go.Proofs.YtpmojmhamgcfmaaGreat.sf Go.Proofs.YtpmojmhamgcfmaaGreat.mat
set_option linter.unusedVariables false
set_option maxRecDepth 100000

theorem corF_le (r u : List Int) : (corF r u).length ≤ r.length := by
  cases h : transB r u with
  | false => rw [corF_no h]; simp
  | true =>
    have s := transB_iff.1 h
    rw [corF_yes h]
    exact (cso_cs s.commB r.length (Nat.le_refl _)).len
theorem genF_yes {r u : List Int} (h : transB r u = true) {n : Nat} (hn : r.length = n) : genF r u = 1 + ((n : Int) - ((corF r u).length : Int)) / 2 := by subst hn; simp [genF, h]
theorem genF_no {r u : List Int} (h : transB r u = false) : genF r u = -1 := by simp [genF, h]
theorem wrap_in {a : Int} (h1 : -100 ≤ a) (h2 : a ≤ 100) : IntKind.i64.wrap a = a := IntWalk.i64_in _ (by omega)

theorem regF_not {r u : List Int} (h : transB r u = false) (a : Int) : regF r u a = false := by simp [regF, h]
theorem regF_neg {r u : List Int} {a : Int} (h : a < 0) : regF r u a = false := by
  have : decide (0 ≤ a) = false := by simp; omega
  simp [regF, this]
theorem regF_big {r u : List Int} {a : Int} (h : (r.length : Int) ≤ a) : regF r u a = false := by
  have : decide (a < (r.length : Int)) = false := by simp; omega
  simp [regF, this]
theorem regF_in {r u : List Int} (h : transB r u = true) {f : Nat} (hf : f < r.length) {z : Int} (hz : (comm r u).getD f 0 = z) : regF r u (f : Int) = (z == (f : Int)) := by
  subst hz
  have h1 : decide (0 ≤ (f : Int)) = true := by simp
  have h2 : decide ((f : Int) < (r.length : Int)) = true := by simp; omega
  unfold regF
  rw [h, h1, h2, Int.toNat_natCast, Bool.eq_iff_iff]
  simp
end Go.Proofs.YtpmojmhamgcfmaaGreat.gl

/-
  Contracts of the program's AnglesOf, StratumOf, GenusOf.
-/
namespace Go.Proofs.YtpmojmhamgcfmaaGreat.gl
open Go.ChangeShapes Go.WideShapes Go.ChangeAt Go.RowKit
open Go.Proofs.YtpmojmhamgcfmaaGreat.mem Go.Proofs.YtpmojmhamgcfmaaGreat.ints Go.Proofs.YtpmojmhamgcfmaaGreat.arr Go.Proofs.YtpmojmhamgcfmaaGreat.pm Go.Proofs.YtpmojmhamgcfmaaGreat.permOk Go.Proofs.YtpmojmhamgcfmaaGreat.permOf Go.Proofs.YtpmojmhamgcfmaaGreat.inv Go.Proofs.YtpmojmhamgcfmaaGreat.fns Go.Proofs.YtpmojmhamgcfmaaGreat.sf Go.Proofs.YtpmojmhamgcfmaaGreat.mat Go.Proofs.YtpmojmhamgcfmaaGreat.rf
set_option linter.unusedVariables false
set_option maxRecDepth 100000

theorem angF_yes {r u : List Int} (h : transB r u = true) {n : Nat} (hn : r.length = n) : angF r u = sortD (lensF (cso (comm r u) n n)) := by subst hn; unfold angF; rw [corF_yes h]; rfl
theorem angF_no {r u : List Int} (h : transB r u = false) : angF r u = [] := by unfold angF; rw [corF_no h]; rfl
set_option maxHeartbeats 2000000 in
theorem an_impl0 (v : Value) (r u : List Int) (hi : Nat) (w : World) (hx : Srd w hi v r u) (hn : r.length ≤ 1048576) (hm : u.length ≤ 1048576) :
    Calls Tryz.prog 32 #[v] w (Gives (angF r u) w) := by
  have HX := Lib.hid hx; clear hx
  obtain ⟨P, n, c, Q, m, d, rfl, q1, q2, e1, e2, ht, HR⟩ := HX.out.open
  have L1 := Lib.hid q1
  clear HR
  go_enter Tryz.func32, Tryz.ntmps32
  go_wp2_with fail
  refine (gluingOf_any _ r u hi _ (HX.out.keep ((Below.refl hi w).alloc ht _) (Nat.le_refl _)) hn hm).mono ?_
  rintro e w1 ⟨rfl, b1⟩
  have B1 := Lib.hid (below1 _ _ b1); clear b1

  cases hq : transB r u
  · have HF := Lib.hid (angF_no hq); clear hq
    go_wp2_with (refine wpList_store_row rfl 62 _ _ rfl w1.heap.size (V (glv r u)).toArray rfl rfl 62 (V zero49).toArray (Arr.new w1 (V zero49) _ rfl) (size49 (glv_len _ _)) (by simp [V_len, glv_len, zero49]) (one_V _) ?_; generalize hw_ : (w1.alloc (.cells #[.int .i64 0, .int .i64 0, .int .i64 0, .int .i64 0, .int .i64 0, .int .i64 0, .int .i64 0, .int .i64 0, .int .i64 0, .int .i64 0, .int .i64 0, .int .i64 0, .int .i64 0, .int .i64 0, .int .i64 0, .int .i64 0, .int .i64 0, .int .i64 0, .int .i64 0, .int .i64 0, .int .i64 0, .int .i64 0, .int .i64 0, .int .i64 0, .int .i64 0, .int .i64 0, .int .i64 0, .int .i64 0, .int .i64 0, .int .i64 0, .int .i64 0, .int .i64 0, .int .i64 0, .int .i64 0, .int .i64 0, .int .i64 0, .int .i64 0, .int .i64 0, .int .i64 0, .int .i64 0, .int .i64 0, .int .i64 0, .int .i64 0, .int .i64 0, .int .i64 0, .int .i64 0, .int .i64 0, .int .i64 0, .int .i64 0] 62)).setRow w1.heap.size (V (glv r u)).toArray = w2; have A2 : Hid (Arr w2 w1.heap.size (V (glv r u)) 62) := Lib.hid (by rw [← hw_]; exact (Arr.new w1 (V zero49) _ rfl).row); have b1 : Below w1.heap.size w1 w2 := (by rw [← hw_]; exact arr.below_setRow ((Below.refl _ _).alloc (Nat.le_refl _) _) (Nat.le_refl _) _); have t_ : w1.heap.size + 1 ≤ w2.heap.size := (by rw [← hw_]; simp); clear hw_; replace B1 := Lib.hid (B1.out.trans (b1.mono B1.out.size)); clear b1)
    go_ret
    exact gives_eq HF.out (gives_nil B1.out)
  · have HS : Hid (Sf n r u) := Lib.hid (by have := transB_iff.1 hq; rwa [L1.out] at this)
    have HF := Lib.hid (angF_yes hq L1.out)
    have HG : Hid (glv r u = gl (ext r) (ext u) n) := Lib.hid (by rw [glv_yes hq, L1.out])
    clear hq
    rw [HG.out]
    go_wp2_with (first | (refine wpList_store_row rfl 62 _ _ rfl w1.heap.size (V (gl (ext r) (ext u) n)).toArray rfl rfl 62 (V zero49).toArray (Arr.new w1 (V zero49) _ rfl) (size49 (gl_len (ext_len _) (ext_len _) n)) (by simp [V_len, gl_len, ext_len, zero49]) (one_V _) ?_; generalize hw_ : (w1.alloc (.cells #[.int .i64 0, .int .i64 0, .int .i64 0, .int .i64 0, .int .i64 0, .int .i64 0, .int .i64 0, .int .i64 0, .int .i64 0, .int .i64 0, .int .i64 0, .int .i64 0, .int .i64 0, .int .i64 0, .int .i64 0, .int .i64 0, .int .i64 0, .int .i64 0, .int .i64 0, .int .i64 0, .int .i64 0, .int .i64 0, .int .i64 0, .int .i64 0, .int .i64 0, .int .i64 0, .int .i64 0, .int .i64 0, .int .i64 0, .int .i64 0, .int .i64 0, .int .i64 0, .int .i64 0, .int .i64 0, .int .i64 0, .int .i64 0, .int .i64 0, .int .i64 0, .int .i64 0, .int .i64 0, .int .i64 0, .int .i64 0, .int .i64 0, .int .i64 0, .int .i64 0, .int .i64 0, .int .i64 0, .int .i64 0, .int .i64 0] 62)).setRow w1.heap.size (V (gl (ext r) (ext u) n)).toArray = w2; have A2 : Hid (Arr w2 w1.heap.size (V (gl (ext r) (ext u) n)) 62) := Lib.hid (by rw [← hw_]; exact (Arr.new w1 (V zero49) _ rfl).row); have b1 : Below w1.heap.size w1 w2 := (by rw [← hw_]; exact arr.below_setRow ((Below.refl _ _).alloc (Nat.le_refl _) _) (Nat.le_refl _) _); have t_ : w1.heap.size + 1 ≤ w2.heap.size := (by rw [← hw_]; simp); clear hw_; replace B1 := Lib.hid (B1.out.trans (b1.mono B1.out.size)); clear b1) | (refine wpList_load_row rfl 62 (.tmp 3) rfl w1.heap.size rfl 62 (V (gl (ext r) (ext u) n)).toArray (0, 0) _ A2.out Tryz.underlying62 rfl (size49 (gl_len (ext_len _) (ext_len _) n)) ?_))
    refine (angles_any r u n _ HS.out).mono ?_
    rintro e w3 hg
    obtain ⟨v3, rfl, o3, b3⟩ := gives_eq HF.out (gives_later B1.out hg)
    have O3 := Lib.hid o3; have BB := Lib.hid b3; clear o3 b3 hg A2
    go_wp2_with fail
    go_ret
    exact ⟨v3, rfl, O3.out, BB.out⟩

theorem an_impl (v : Value) (r u : List Int) (hi : Nat) (w : World) (hx : Srd w hi v r u) (hn : r.length ≤ 1048576) (hm : u.length ≤ 1048576) :
    Calls Tryz.prog 32 #[v] w fun e w' => ∃ v, e = .returned v ∧ w'.ownsRow w.heap.size 3 1 v (angF r u).length (V (angF r u)) ∧ Below w.heap.size w w' :=
  an_impl0 v r u hi w hx hn hm

set_option maxHeartbeats 2000000 in
theorem st_impl0 (v : Value) (r u : List Int) (hi : Nat) (w : World) (hx : Srd w hi v r u) (hn : r.length ≤ 1048576) (hm : u.length ≤ 1048576) :
    Calls Tryz.prog 16 #[v] w (Gives (strF r u) w) := by
  have HX := Lib.hid hx; clear hx
  obtain ⟨P, n, c, Q, m, d, rfl, q1, q2, e1, e2, ht, HR⟩ := HX.out.open
  obtain ⟨i0, hi0, hz0, hz1, hz2⟩ := info_parts infoI
  clear q1 q2 HR e1 e2
  go_enter Tryz.func16, Tryz.ntmps16
  go_wp2_with fail
  refine (an_impl _ r u hi _ (HX.out.keep ((Below.refl hi w).alloc ht _) (Nat.le_refl _)) hn hm).mono ?_
  rintro e w1 ⟨v1, rfl, o1, b1⟩
  obtain ⟨P1, c1, rfl⟩ := own_form o1
  have RA : Hid (Row w1 (w.heap.size + 1) w1.heap.size P1 (angF r u).length (V (angF r u))) := Lib.hid (by have := Row.of_own o1; simpa using this)
  have S0 : Hid (Grows w1 w1 (.slice none 0 0) []) := Lib.hid ⟨⟨rfl, .inl ⟨rfl, rfl⟩⟩, Below.refl _ _⟩
  have BW : Hid (Below w.heap.size w w1) := Lib.hid (((Below.refl _ _).alloc (Nat.le_refl _) _).trans (b1.mono (by simp)))
  clear o1 b1
  have HF : Hid (strF r u = strL (angF r u)) := Lib.hid rfl
  have HR := Lib.hid (angF_range r u)
  have hl := angF_len r u
  generalize angF r u = l at *
  go_wp2
  go_loopw [3, 9] (fun v i wr => ∃ k : Nat, k ≤ l.length ∧ i = .int .i64 k ∧ Grows w1 wr v (strL (l.take k))) (fun _ i _ => l.length - (intOf i).toNat)
  case atStart => exact ⟨0, Nat.zero_le _, rfl, by simpa [strL] using S0.out⟩
  case round =>
    obtain ⟨k, hk, rfl, hm⟩ := hrel
    obtain ⟨C, cc, rfl⟩ := own_form hm.own
    have HM := Lib.hid hm; clear hm
    have hsz : w1.heap.size ≤ wr.heap.size := HM.out.below.size
    by_cases hlt : k < l.length
    · obtain ⟨g, off, uu, rfl, hg1, hg2, hxu, hcx, hfx⟩ := (Row.keep RA.out HM.out.below (Nat.le_refl _)).at_ hlt
      obtain ⟨x, hxs, rfl⟩ := V_at hxu
      obtain ⟨hx0, hx24⟩ := HR.out x (List.mem_of_getElem? hxs)
      have NX : Hid (strL (l.take (k + 1)) = if 1 < x then strL (l.take k) ++ [x - 1] else strL (l.take k)) := Lib.hid (by rw [List.take_add_one, hxs]; exact strL_snoc _ _)
      have HLN : (strL (l.take k)).length ≤ l.length := by have := strL_len (l.take k); simp at this; omega
      clear hxu hxs hfx
      generalize strL (l.take k) = lk at *
      by_cases hx1 : 1 < x
      · rw [if_pos hx1] at NX
        go_wp2_with (at_builtin; refine wpList_append_one2 wr _ _ rfl _ _ 29 rfl w1.heap.size 3 i0 _ 8 1 Tryz.underlying29 hi0 hz0 hz1 rfl hz2 rfl _ _ _ rfl HM.out.own rfl rfl ?c4 (by decide) hsz ?_)
        case c4 => omega
        intro v' w' ho hg hb
        have HN : Hid (Grows w1 w' v' (strL (l.take (k + 1)))) := Lib.hid (by rw [NX.out]; exact HM.out.next ho rfl hg)
        clear ho hg hb HM hcx
        go_wp2
        go_roundw
        case rel => exact ⟨k + 1, by omega, by go_num, HN.out⟩
        case measure => simp [intOf]; omega
      · rw [if_neg hx1] at NX
        have hd : decide (1 < x) = false := by simp; omega
        clear hx1
        go_wp2
        go_roundw
        case rel => exact ⟨k + 1, by omega, by go_num, by rw [NX.out]; exact HM.out⟩
        case measure => simp [intOf]; omega
    · obtain rfl : k = l.length := by omega
      have e : l.take l.length = l := List.take_of_length_le (Nat.le_refl _)
      rw [e] at HM ⊢
      go_wp2
      go_ret
      exact gives_eq HF.out ⟨_, rfl, own_base HM.out.own BW.out.size, BW.out.trans (HM.out.below.mono BW.out.size)⟩

theorem st_impl (v : Value) (r u : List Int) (hi : Nat) (w : World) (hx : Srd w hi v r u) (hn : r.length ≤ 1048576) (hm : u.length ≤ 1048576) :
    Calls Tryz.prog 16 #[v] w fun e w' => ∃ v, e = .returned v ∧ w'.ownsRow w.heap.size 3 1 v (strF r u).length (V (strF r u)) ∧ Below w.heap.size w w' :=
  st_impl0 v r u hi w hx hn hm

end Go.Proofs.YtpmojmhamgcfmaaGreat.gl

/-
  StrataWith of the program.
-/
namespace Go.Proofs.YtpmojmhamgcfmaaGreat.lst
open Go.ChangeShapes Go.WideShapes Go.ChangeAt Go.RowKit
open Go.Proofs.YtpmojmhamgcfmaaGreat.mem Go.Proofs.YtpmojmhamgcfmaaGreat.ints Go.Proofs.YtpmojmhamgcfmaaGreat.arr Go.Proofs.YtpmojmhamgcfmaaGreat.pm Go.Proofs.YtpmojmhamgcfmaaGreat.sf Go.Proofs.YtpmojmhamgcfmaaGreat.gl Go.Proofs.YtpmojmhamgcfmaaGreat.orb
open Go.Proofs.YtpmojmhamgcfmaaGreat.wd
set_option linter.unusedVariables false
set_option maxRecDepth 100000

theorem builtH : Tryz.prog.built 36 [(1, (.func (.func 13) #[] #[]))] = some #[.slice none 0 0, (.func (.func 13) #[] #[])] := by kernel_rfl
theorem sizeH : (Tryz.prog.info? 36).map (·.size) = some 2 := by kernel_rfl
theorem strF_small (r u : List Int) : (strF r u).length ≤ 24 := by
  have h1 := strL_len (angF r u)
  have h2 := (corF_small r u).1
  have h3 : (angF r u).length = (corF r u).length := by simp [angF, sortD_len]
  unfold strF
  omega
theorem stL_snoc (L : List Sur) (s : Sur) : stL (L ++ [s]) = insT (stL L) (strF s.1 s.2) := by simp [stL]
/-- A row of headers of lists in blocks of their own reads as a list of lists that owns its memory. -/
theorem rk_mat {w : World} {B lo hi : Nat} {ex : Nat → Prop} {Y : List RI} {A : Option Addr} {c : Nat} (h : Rk w lo hi ex Y) (ho : w.ownsRow hi 29 1 (.slice A Y.length c) Y.length (hdOf Y)) (h1 : B ≤ lo) (h2 : B ≤ hi) : mat.Mat w B w.heap.size A Y.length (Y.map lOf) := by
  refine ⟨List.length_map .., Nat.le_refl _, ?_⟩
  have HS : ∀ G : Nat, (∀ b, b < hi → ¬ b = G) → mat.Hs w B w.heap.size (fun b => b = G) (fun i => (Y[i]?.map (·.1)).getD 0) (hdOf Y) (Y.map lOf) := fun G hG => by
    have bl : ∀ (i : Nat) z, Y[i]? = some z → (Y[i]?.map (·.1)).getD 0 = z.1 := fun i z hz => by simp [hz]
    refine ⟨by rw [hd_len, List.length_map], Nat.le_refl _, fun i xs hx => ?_, fun i j xs ys hx hy p q hij => ?_⟩
    · rw [List.getElem?_map] at hx
      obtain ⟨z, hz, rfl⟩ := Option.map_eq_some_iff.1 hx
      obtain ⟨A', c', e, _, _, r⟩ := h.each z (List.mem_of_getElem? hz)
      refine ⟨A', c', by rw [hd_at hz, e], fun p => ?_⟩
      rw [bl i z hz]
      obtain ⟨r1, r2, r3, r4⟩ := r p
      have := h.top
      exact ⟨by omega, by omega, hG _ r2, r4⟩
    · rw [List.getElem?_map] at hx hy
      obtain ⟨z, hz, rfl⟩ := Option.map_eq_some_iff.1 hx
      obtain ⟨y, hy', rfl⟩ := Option.map_eq_some_iff.1 hy
      rw [bl i z hz, bl j y hy']
      obtain ⟨li, ei⟩ := List.getElem?_eq_some_iff.1 hz
      obtain ⟨lj, ej⟩ := List.getElem?_eq_some_iff.1 hy'
      rcases Nat.lt_or_gt_of_ne hij with o | o
      · have := List.pairwise_iff_getElem.1 h.ne i j li lj o
        rw [ei, ej] at this
        exact this p q
      · have := List.pairwise_iff_getElem.1 h.ne j i lj li o
        rw [ei, ej] at this
        exact fun e => this q p e.symm
  rcases ho.2 with ⟨q, q2⟩ | ⟨g, cap, cur, q, b1, b2, b3, b4, b5, b6⟩
  · refine ⟨hdOf Y, _, w.heap.size, HS _ (fun b hb => by have := h.top; omega), fun hn => by omega⟩
  · injection q with q1 q2 q3
    subst q1; subst q3
    have hg : g < w.heap.size := (Array.getElem?_eq_some_iff.1 b2).1
    refine ⟨hdOf Y, _, g, HS g (fun b hb => by omega), fun hn => ⟨by omega, hg, by rw [hd_len], hg, fun _ => ⟨g, 0, rfl, Nat.le_refl _, by omega, fun j hj => ?_⟩⟩⟩
    have hj' : j < (hdOf Y).length := by rw [hd_len]; exact hj
    have e1 := ho.cells (g := g) rfl j (hdOf Y)[j] (List.getElem?_eq_getElem hj')
    rw [add0] at e1
    refine ⟨by rw [e1, List.getElem?_eq_getElem hj'], ?_⟩
    unfold World.frozen?
    simp [b2]
set_option maxHeartbeats 4000000 in
theorem strata_impl (a : Int) (w : World) : Calls Tryz.prog 5 #[.int .i64 a] w (fns.MGives (stF a) w) := by
  go_enter Tryz.func5, Tryz.ntmps5
  go_wp2_with (first | (refine gl.wpList_build rfl 36 _ rfl [(1, (.func (.func 13) #[] #[]))] rfl _ builtH ?_) | (refine wpList_store_fresh rfl 36 _ _ rfl [.slice none 0 0, (.func (.func 13) #[] #[])] #[.slice none 0 0, .nilFunc] rfl rfl sizeH rfl (by simp [Value.oneCell']) ?_; intro w1 b1 a1 s1))
  refine (sw_impl a w1).mono ?_
  rintro e w2 ⟨v2, rfl, sx⟩
  obtain ⟨Z, ez, oz, pz⟩ := sx.ex
  obtain ⟨A2, c2, rfl⟩ := mem.own_form oz
  have b2 := sx.bel
  have s2 := b2.size
  have SF : Hid (∀ z ∈ Z, Sf a.toNat (sOf z).1 (sOf z).2) := Lib.hid (fun z hz => sx.sf _ (by rw [← ez]; exact List.mem_map_of_mem hz))
  have EZ : Hid (stL (Z.map sOf) = stF a) := Lib.hid (by rw [ez]; rfl)
  have NL : Z.length ≤ 26 := by
    have e1 : Z.length = (swF a).length := by rw [← ez, List.length_map]
    have := swF_len a
    omega
  have PZ := Lib.hid pz; have OZ := Lib.hid oz; have B2 := Lib.hid (b1.trans (b2.mono (by omega)))
  have A0 : Hid (Ah w2 w.heap.size w2.heap.size w.heap.size (.slice none 0 0) []) := Lib.hid ⟨a1.keep b2 a1.lt, ⟨rfl, .inl ⟨rfl, rfl⟩⟩, fun e => by simp [Value.ownBlock] at e, List.Pairwise.nil, Rk.nil _ _ _ _ (Nat.le_refl _)⟩
  clear ez oz pz b1 b2 sx a1
  go_wp2_with fail
  go_loopw [10] (fun i wr => ∃ (k : Nat) (v : Value) (Y : List RI), k ≤ Z.length ∧ i = .int .i64 k ∧ Ah wr w.heap.size w2.heap.size w.heap.size v Y ∧ Y.map lOf = stL ((Z.take k).map sOf) ∧ Y.length ≤ k ∧ Fr w2 wr w.heap.size (.slice none 0 0) v) (fun i _ => Z.length - (intOf i).toNat)
  case atStart => exact ⟨0, _, [], Nat.zero_le _, rfl, A0.out, rfl, Nat.zero_le _, Fr.of _ _ (Below.refl _ _)⟩
  case round =>
    obtain ⟨k, v, Y, hk, rfl, ah, ey, yl, fr⟩ := hrel
    have AH := Lib.hid ah; have EY := Lib.hid ey; have FR := Lib.hid fr; clear ah ey fr A0
    have swr := FR.out.size
    by_cases hlt : k < Z.length
    · obtain ⟨z, hz⟩ : ∃ z, Z[k]? = some z := ⟨_, List.getElem?_eq_getElem hlt⟩
      obtain ⟨g, off, rfl, hg, q0, q1⟩ := own_at OZ.out rfl hz
      have hgw : g ≠ w.heap.size := by have := (OZ.out.lt g rfl).1; omega
      have kp : ∀ b, b < w2.heap.size → b ≠ w.heap.size → wr.heap[b]? = w2.heap[b]? := fun b q1 q2 => FR.out.block b q1 q2 (fun e => by simp [Value.ownBlock] at e)
      have PR : Hid (Pk wr w1.heap.size w2.heap.size (fun b => (Value.slice (some ⟨g, off, none⟩) Z.length c2).ownBlock = some b) Z) := Lib.hid (PZ.out.keep swr (fun b l h _ => kp b h (by omega)))
      obtain ⟨P, c', Q, d', ep, srd⟩ := PR.out.srd (List.mem_of_getElem? hz)
      have SS := SF.out z (List.mem_of_getElem? hz)
      have ET : Hid (stL ((Z.take (k + 1)).map sOf) = insT (stL ((Z.take k).map sOf)) (strF (sOf z).1 (sOf z).2)) := Lib.hid (by
        rw [List.take_add_one, hz, List.map_append]
        exact stL_snoc _ _)
      have hc0 : wr.cell? ⟨g, off + k * 2, none⟩ = some (.slice P (sOf z).1.length c') := by
        rw [World.cell?_of_block (w := w2) (a := ⟨g, off + k * 2, none⟩) (kp g hg hgw), q0, ep]
      have hc1 : wr.cell? ⟨g, off + k * 2 + 1, none⟩ = some (.slice Q (sOf z).2.length d') := by
        rw [World.cell?_of_block (w := w2) (a := ⟨g, off + k * 2 + 1, none⟩) (kp g hg hgw), q1, ep]
      have SRD := Lib.hid srd
      have n24 := sf24 SS
      have r24 : (sOf z).1.length ≤ 24 := by rw [SS.lr]; exact n24
      have u24 : (sOf z).2.length ≤ 24 := by rw [SS.lu]; exact n24
      have T24 := strF_small (sOf z).1 (sOf z).2
      generalize stL ((Z.take k).map sOf) = SL at *
      generalize (sOf z).1 = r at *; generalize (sOf z).2 = u at *
      clear ep srd q0 q1 hz PR SS kp
      have ST1 : Hid (∃ W, W = wr.alloc (.cells #[.slice P r.length c', .slice Q u.length d'] 31) ∧ Below wr.heap.size wr W) := Lib.hid ⟨_, rfl, (Below.refl _ _).alloc (Nat.le_refl _) _⟩
      go_wp2_with fail
      obtain ⟨w3, eW, b3⟩ := ST1.out
      rw [← eW]
      have AH3 := Lib.hid (AH.out.keep b3); have SR3 := Lib.hid (SRD.out.keep (b3.mono swr) (Nat.le_refl _)); have FR3 := Lib.hid (FR.out.trans (Fr.of _ _ b3))
      have s3 := b3.size
      clear eW b3 ST1 SRD AH FR hc0 hc1
      refine (st_impl _ r u _ _ SR3.out (by omega) (by omega)).mono ?_
      rintro e w4 ⟨v4, rfl, o4, b4⟩
      obtain ⟨A4, c4, rfl⟩ := mem.own_form o4
      have AH4 := Lib.hid (AH3.out.keep b4); have FR4 := Lib.hid (FR3.out.trans (Fr.of _ _ b4))
      have R4 := Lib.hid (Row.of_own o4).rd
      have s4 := b4.size
      have hbb := AH3.out.box.lt
      obtain ⟨blk, _, rkc⟩ := (AH3.out.rk.keep b4.size (fun b _ q _ => b4.block b q)).cons (hi' := w4.heap.size) o4 (by omega) s4 rfl (by omega) (fun b q1 q2 e => by
        rcases e with e | e
        · have := (AH3.out.own.lt b e).2; omega
        · omega)
      have RC := Lib.hid rkc
      clear rkc o4 b4 AH3 FR3 SR3
      generalize strF r u = t at *
      go_wp2_with fail
      refine (insertH w.heap.size w2.heap.size w.heap.size _ v Y (blk, .slice A4 t.length c4, t) A4 c4 t _ AH4.out rfl rfl RC.out R4.out (Nat.le_refl _) (by omega) (by omega)).mono ?_
      rintro e w5 ⟨v5, Y5, rfl, ah5, ey5, fr5⟩
      have A5 := Lib.hid ah5; have F5 := Lib.hid (FR4.out.trans fr5)
      have E5 : Hid (Y5.map lOf = stL ((Z.take (k + 1)).map sOf)) := Lib.hid (by rw [ey5, EY.out, ET.out])
      have L5 : Y5.length ≤ k + 1 := by
        have h1 := insT_len (Y.map lOf) t
        rw [← ey5, List.length_map, List.length_map] at h1
        omega
      clear ah5 ey5 fr5 AH4 FR4 RC R4 EY ET
      go_wp2_with fail
      go_roundw
      case rel => exact ⟨k + 1, v5, Y5, by omega, by go_num, A5.out, E5.out, L5, F5.out⟩
      case measure => simp [intOf]; omega
    · obtain rfl : k = Z.length := by omega
      have EE : Hid (Y.map lOf = stF a) := Lib.hid (by rw [EY.out, List.take_of_length_le (Nat.le_refl _), EZ.out])
      clear EY EZ
      go_wp2_with fail
      refine (takeH w.heap.size w2.heap.size w.heap.size v Y _ AH.out (Nat.le_refl _) (by omega)).mono ?_
      rintro e w6 ⟨v6, v7, rfl, o6, _, fr6⟩
      obtain ⟨A6, c6, rfl⟩ := mem.own_form o6
      have FIN : Hid (fns.MGives (stF a) w (.returned (.slice A6 Y.length c6)) w6) := Lib.hid (by
        have hbx := AH.out.box.lt
        have r6 := AH.out.rk.keep fr6.size (fun k _ q e => fr6.block k q (fun x => e (.inr x)) (fun x => e (.inl x)))
        have m6 := rk_mat (B := w.heap.size) r6 o6 (by omega) (by omega)
        have bl : Below w.heap.size w w6 := B2.out.trans ((FR.out.trans fr6).below B2.out.size (Nat.le_refl _) (fun k e => by simp [Value.ownBlock] at e))
        have el : Y.length = (stF a).length := by rw [← EE.out, List.length_map]
        rw [EE.out] at m6
        rw [el] at m6 ⊢
        exact ⟨A6, c6, rfl, m6, bl⟩)
      clear o6 fr6
      go_wp2_with fail
      go_ret
      exact FIN.out
end Go.Proofs.YtpmojmhamgcfmaaGreat.lst
