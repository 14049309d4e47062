/-
  The program's angles: the lengths of the corners, sorted, turned round; AnglesOf.
-/
import Derived.Test.YtpmojmhamgcfmaaWCm
import Derived.Sort.Grow
namespace Go.Proofs.Ytpmojmhamgcfmaa.gl
open Go.ChangeShapes Go.WideShapes Go.ChangeAt Go.RowKit
open Go.Proofs.Ytpmojmhamgcfmaa.mem Go.Proofs.Ytpmojmhamgcfmaa.ints Go.Proofs.Ytpmojmhamgcfmaa.arr Go.Proofs.Ytpmojmhamgcfmaa.pm Go.Proofs.Ytpmojmhamgcfmaa.permOk Go.Proofs.Ytpmojmhamgcfmaa.permOf Go.Proofs.Ytpmojmhamgcfmaa.inv Go.Proofs.Ytpmojmhamgcfmaa.fns Go.Proofs.Ytpmojmhamgcfmaa.sf Go.Proofs.Ytpmojmhamgcfmaa.mat Go.Proofs.Ytpmojmhamgcfmaa.rf
set_option linter.unusedVariables false
set_option maxRecDepth 100000
open Go.Sort
attribute [local go_sem] Oper.semAt_some

theorem holds_row {w : World} {base g cap : Nat} {e : TypeId} {l : List Int} (h : w.ownsRow base e 1 (.slice (some ⟨g, 0, none⟩) l.length cap) l.length (V l)) : Go.Sort.Holds (Value.int .i64) w g 0 l.toArray := by
  intro j hj
  have hj' : j < l.length := by simpa using hj
  rw [Nat.zero_add]
  refine ⟨?_, h.frozenAt j⟩
  rw [h.cellAt j (by omega), V_getD hj']
  simp [List.getD, hj']
theorem put_heap {w : World} {g n : Nat} {os : Array Obj} {cur : Array Value} {e : TypeId} {fr : Nat × Nat} (d : Array Int) (hb : w.heap[g]? = some (.cells cur e fr)) :
    (grow (putRow (Value.int .i64) (Sort.ahead w n) g 0 d) os).heap[g]? = some (.cells (putCells (Value.int .i64) 0 d cur) e fr) := by
  have hg : g < w.heap.size := (Array.getElem?_eq_some_iff.1 hb).1
  rw [heap_grow_old _ _ (by simpa using hg)]
  simp [putRow, mapBlock, Sort.ahead, Array.getElem?_modify, hb, onCells]
theorem put_grown {w : World} {g n : Nat} {os : Array Obj} (d : Array Int) : w.grownBy (grow (putRow (Value.int .i64) (Sort.ahead w n) g 0 d) os) (some g) := by
  refine ⟨rfl, rfl, rfl, by simp, fun k hk hne => ?_⟩
  rw [heap_grow_old _ _ (by simpa using hk)]
  have : g ≠ k := fun e => hne (by rw [e])
  simp [putRow, mapBlock, Sort.ahead, Array.getElem?_modify, this]
theorem put_own {w : World} {base g cap n : Nat} {e : TypeId} {os : Array Obj} {l m : List Int} (hl : m.length = l.length) (h : w.ownsRow base e 1 (.slice (some ⟨g, 0, none⟩) l.length cap) l.length (V l)) :
    (grow (putRow (Value.int .i64) (Sort.ahead w n) g 0 m.toArray) os).ownsRow base e 1 (.slice (some ⟨g, 0, none⟩) m.length cap) m.length (V m) := by
  rcases h.2 with ⟨h0, _⟩ | ⟨g', cap', cur, q1, q2, q3, q4, q5, q6, q7⟩
  · cases h0
  · injection q1 with e1 e2 e3
    injection e1 with e1
    injection e1 with e1
    subst e1; subst e3
    refine ⟨by simp [V], .inr ⟨g, cap, _, by rw [hl], q2, put_heap _ q3, by omega, q5, by simp [putCells, q6], ?_⟩⟩
    rw [Nat.mul_one]
    apply List.ext_getElem?
    intro j
    by_cases hj : j < m.length
    · rw [List.getElem?_take_of_lt hj, Array.getElem?_toList]
      have : j < cur.size := by omega
      simp [putCells, hj, this, V]
    · rw [List.getElem?_take_eq_none (by omega), List.getElem?_eq_none (by simp [V]; omega)]
theorem grow_none (w : World) : grow w #[] = w := by simp [grow]
theorem sort_desc (l : List Int) : (l.mergeSort fun x y => decide (x ≤ y)).reverse = sortD l := by
  have h1 : (l.mergeSort fun x y => decide (x ≤ y)).Pairwise (fun x y => decide (x ≤ y) = true) := List.pairwise_mergeSort (fun a b c => by simp; omega) (fun a b => by simp; omega) l
  refine List.Perm.eq_of_pairwise (le := fun a b => b ≤ a) (fun a b _ _ h1 h2 => by omega) ?_ (sortD_desc l) ((List.reverse_perm _).trans ((List.mergeSort_perm _ _).trans (sortD_perm l).symm))
  rw [List.pairwise_reverse]
  exact h1.imp (fun {a b} h => by simpa using h)
/-- What the counting of the corners has come to. -/
def Al (w0 : World) (S D1 : Nat) (pre : List Rw) (W : World) : Prop :=
  S + 2 ≤ D1 ∧ D1 ≤ W.heap.size ∧ Below w0.heap.size w0 W ∧ ∃ v, Arr W (w0.heap.size + 1) [v] 23 ∧ W.ownsRow D1 3 1 v (lensF (pre.map Prod.fst)).length (V (lensF (pre.map Prod.fst)))
theorem own_out {A B : World} {base S : Nat} {e : TypeId} {v : Value} {n : Nat} {xs : List Value} (h : A.ownsRow base e 1 v n xs) (hS : S + 2 ≤ base) (ho : Out S (S + 2) A B) : B.ownsRow base e 1 v n xs := by
  refine ⟨h.1, ?_⟩
  rcases h.2 with h0 | ⟨g, cap, cur, q1, q2, q3, q4⟩
  · exact .inl h0
  · exact .inr ⟨g, cap, cur, q1, q2, (ho.block g (Array.getElem?_eq_some_iff.1 q3).1 (.inr (by omega))).trans q3, q4⟩
theorem Al.out {w0 A B : World} {S D1 : Nat} {pre : List Rw} (h : Al w0 S D1 pre A) (hS : w0.heap.size + 1 < S) (ho : Out S (S + 2) A B) : Al w0 S D1 pre B := by
  obtain ⟨h1, h2, h3, v, h4, h5⟩ := h
  have hs := ho.size
  exact ⟨h1, by omega, h3.trans (ho.below (by omega) (by have := h3.size; omega)), v, (ho.block _ h4.lt (.inl hS)).trans h4, own_out h5 h1 ho⟩

set_option maxHeartbeats 4000000 in
theorem angles_any (r u : List Int) (n : Nat) (w : World) (hs : Sf n r u) :
    Calls Try.prog 42 #[.agg (V (gl (ext r) (ext u) n)).toArray] w (Gives (sortD (lensF (cso (comm r u) n n))) w) := by
  obtain ⟨i0, hi0, hz0, hz1, hz2⟩ := info_parts infoI
  have HS := Lib.hid hs; clear hs
  have hL1 : 0 < (cso (comm r u) n n).length := by
    have h1 := cso_len HS.out.commB; have h2 := HS.out.pos
    cases q : cso (comm r u) n n with
    | nil => rw [q] at h1; simp at h1; omega
    | cons => simp
  have hL2 : (cso (comm r u) n n).length ≤ 1048576 := by have := cso_le HS.out.commB; have := HS.out.small; omega
  have SQ0 := Lib.hid (fun ws hg => corners_seq r u n (w.heap.size + 2) ws HS.out hg)
  generalize cso (comm r u) n n = L at *
  have f1 : Fence.wide.fn 70 := trivial
  have f2 : Fence.wide.fn 71 := trivial
  have f3 : Fence.wide.fn 72 := trivial
  refine (callsIn_wide (n := 9)).1 ?_
  refine callsIn_of_wp_marks Try.func42 rfl trivial ?_ rfl
  simp only [Try.ntmps42, List.size_toArray, List.length_cons, List.length_nil, Nat.reduceAdd, Nat.reduceSub, Array.replicate_succ, Array.replicate_zero, List.push_toArray, List.append_toArray, List.nil_append, List.cons_append]
  have A0 : Hid (Arr ((w.alloc (.cells (V (gl (ext r) (ext u) n)).toArray 63)).alloc (.cells #[.slice none 0 0] 23)) w.heap.size (V (gl (ext r) (ext u) n)) 63) := Lib.hid ((Arr.new w _ _ rfl).alloc _)
  gi_wp2_with (first | (refine in_load_row rfl 63 _ rfl w.heap.size rfl 63 (V (gl (ext r) (ext u) n)).toArray (0, 0) _ A0.out Try.underlying63 rfl (size49 (gl_len (ext_len _) (ext_len _) n)) ?_) | (gi_at_call 70; refine (callsIn_wide.2 (corners_any (ext r) (ext u) n _ (ext_len _) (ext_len _))).mono ?_; rintro e w' ⟨rfl, rfl⟩))
  generalize hws : ((w.alloc (.cells (V (gl (ext r) (ext u) n)).toArray 63)).alloc (.cells #[.slice none 0 0] 23)).alloc (.cells (V (gl (ext r) (ext u) n)).toArray 63) = ws

  have HZ : Hid (ws.heap.size = w.heap.size + 3) := Lib.hid (by rw [← hws]; simp)
  have BW : Hid (Below w.heap.size w ws) := Lib.hid (by rw [← hws]; exact (((Below.refl _ _).alloc (Nat.le_refl _) _).alloc (by simp) _).alloc (by simp <;> omega) _)
  have AW : Hid (Arr ws (w.heap.size + 1) [.slice none 0 0] 23) := Lib.hid (by rw [← hws]; exact (Arr.new _ [.slice none 0 0] _ (by simp)).alloc _)
  have AG : Hid (Arr ws (w.heap.size + 2) (V (gl (ext r) (ext u) n)) 63) := Lib.hid (by rw [← hws]; exact Arr.new _ _ _ (by simp))
  clear hws A0
  refine range_rows (L := L) (bg := w.heap.size + 2) (gf := 83) (lb := #[.pointer (some ⟨w.heap.size + 1 + 1, 0, none⟩)]) rfl rfl corners_enters (SQ0.out ws AG.out) (by have := HZ.out; omega) (fun D1 pre W => Al w ws.heap.size D1 pre W) (fun _ _ _ => False)
    (fun D1 pre A B h ho => Al.out h (by have := HZ.out; omega) ho) (fun _ _ _ _ h _ => h.elim) ?start (fun x => { tmps := #[.agg (V (gl (ext r) (ext u) n)).toArray, .pointer (some ⟨w.heap.size, 0, none⟩), .slice none 0 0, .pointer (some ⟨w.heap.size + 1, 0, none⟩), x, .agg (V (gl (ext r) (ext u) n)).toArray, .func (.func 83) #[] #[.pointer (some ⟨w.heap.size + 1 + 1, 0, none⟩)], x, undef, undef, undef, undef, undef, undef, undef, undef, undef, undef], defers := [] }) ?assign ?body ?done ?stop
  case start =>
    intro W' hb hs
    exact ⟨hs, Nat.le_refl _, BW.out.trans (hb.mono BW.out.size), _, AW.out.keep hb (by have := HZ.out; omega), ⟨rfl, .inl ⟨rfl, rfl⟩⟩⟩
  case assign =>
    intro l m x W K hK
    gi_wp2
    exact hK
  case body =>
    rintro m D1 pre x W0 W1 hD hD0 hI ho hx hpre
    obtain ⟨xs, xv⟩ := x
    have hpl : pre.length + 1 ≤ L.length := by have := hpre.length_le; simpa using this
    obtain ⟨_, hD1, B1, v, A1, own⟩ := Al.out hI (by have := HZ.out; omega) ho
    obtain ⟨C, cc, rfl⟩ := own_form own
    have hxr : W1.ownsRow W0.heap.size 3 1 xv xs.length (V xs) := hx
    obtain ⟨XA, xc, rfl⟩ := own_form hxr
    have OWN := Lib.hid own; have HA := Lib.hid A1; have HB := Lib.hid B1
    have VLT : Hid (∀ b, (Value.slice C (lensF (pre.map Prod.fst)).length cc).ownBlock = some b → D1 ≤ b ∧ b < W1.heap.size) := Lib.hid (fun b e => own.lt b e)
    have PM : Hid (lensF ((pre ++ [(xs, Value.slice XA xs.length xc)]).map Prod.fst) = lensF (pre.map Prod.fst) ++ [(xs.length : Int)]) := Lib.hid (by simp [lensF])
    have ML : (lensF (pre.map Prod.fst)).length ≤ 1048576 := by simp [lensF]; omega
    have hc := A1.cell (k := 0) rfl
    have hbS := A1.lt
    have hz3 : w.heap.size + 3 ≤ ws.heap.size := by have := HZ.out; omega
    have hz4 : ws.heap.size ≤ w.heap.size + 3 := by have := HZ.out; omega
    clear hx hxr ho hI own A1 B1 hpre
    generalize lensF (pre.map Prod.fst) = ls at *
    gi_wp2_with (gi_at_builtin; refine in_append_one2 W1 _ _ rfl _ _ 23 rfl D1 3 i0 _ 8 1 Try.underlying23 hi0 hz0 hz1 rfl hz2 rfl _ _ _ rfl OWN.out rfl rfl ?c4 (by decide) (by omega) ?_)
    case c4 => omega
    intro v' w' ho' hg hb
    obtain ⟨C', cc', rfl⟩ := own_form ho'
    have HN : Hid (w'.ownsRow D1 3 1 (.slice C' (ls.length + 1) cc') (ls ++ [(xs.length : Int)]).length (V (ls ++ [(xs.length : Int)]))) := Lib.hid (by
      have e : V (ls ++ [(xs.length : Int)]) = V ls ++ [.int .i64 (xs.length : Int)] := by simp [V]
      rw [e]; simpa using ho')
    have A2 : Arr w' (w.heap.size + 1) [.slice C ls.length cc] 23 := (hg.block _ hbS (fun e => by have := (VLT.out _ e.symm).1; omega)).trans HA.out
    have HA2 := Lib.hid A2
    have hgs := hg.size
    have hc2 := A2.cell (k := 0) rfl
    have hf2 := A2.frozen 0
    have HG := Lib.hid hg
    have HK : Hid (∀ k, k < D1 → w'.heap[k]? = W1.heap[k]?) := Lib.hid (fun k q => HG.out.block k (by omega) (fun e => by have := (VLT.out _ e.symm).1; omega))
    clear hg hb ho' A2 hc
    gi_wp2
    have HM : Hid (∀ k, k ≠ w.heap.size + 1 → (w'.setCell ⟨w.heap.size + 1, 0, none⟩ (.slice C' (ls.length + 1) cc')).heap[k]? = w'.heap[k]?) := Lib.hid (fun k q => Below.heap_setCell _ _ _ _ q)
    refine ⟨⟨by simpa [World.setCell] using hgs, (HM.out _ (by omega)).trans (HK.out _ (by omega)), fun k q1 q2 => (HM.out _ (by omega)).trans (HK.out _ q2)⟩, ?_⟩
    refine ⟨hD, by simp [World.setCell]; omega, ?_, .slice C' (ls.length + 1) cc', ?_, ?_⟩
    · exact (HB.out.trans ((Below.refl _ _).grown HG.out HB.out.size (fun b e => by have := (VLT.out b e).1; omega))).setCell (by simp) _
    · have := HA2.out.set_ 0 (.slice C' (ls.length + 1) cc'); simpa using this
    · rw [PM.out]
      refine ⟨HN.out.1, ?_⟩
      rcases HN.out.2 with h0 | ⟨g, cap, cur, q1, q2, q3, q4⟩
      · exact .inl h0
      · exact .inr ⟨g, cap, cur, q1, q2, (HM.out g (by omega)).trans q3, q4⟩
  case done =>
    rintro D1 ys W rfl hI hd
    obtain ⟨h1, h2, hB, v, hA, own⟩ := hI
    have hl1 : (lensF (ys.map Prod.fst)).length ≤ 1048576 := by simp [lensF]; simpa using hL2
    have hl0 : 0 < (lensF (ys.map Prod.fst)).length := by simp [lensF]; simpa using hL1
    clear SQ0 hL1 hL2
    generalize lensF (ys.map Prod.fst) = ls at *
    obtain ⟨C, cc, rfl⟩ := own_form own
    obtain ⟨g, rfl⟩ : ∃ g, C = some ⟨g, 0, none⟩ := by
      rcases own.2 with ⟨_, hn0⟩ | ⟨g, cap, cur, q1, _⟩
      · omega
      · injection q1 with q1; exact ⟨g, q1⟩
    obtain ⟨hg1, hg2⟩ := own.lt g rfl
    have hz3 : w.heap.size + 3 ≤ ws.heap.size := by have := HZ.out; omega
    have hc := hA.cell (k := 0) rfl
    have CS := Lib.hid (Try.slices_Sort_int g 0 cc ls W (holds_row own) hg2 (by omega))
    have OWN := Lib.hid own; have HA := Lib.hid hA; have HB := Lib.hid hB; have HD := Lib.hid hd
    clear own hA hB hd
    gi_wp2_with (gi_at_call 71; refine (callsIn_wide.2 CS.out).mono ?_; rintro e w1 ⟨rfl, nn, os, hw1⟩; have O1 : Hid (w1.ownsRow D1 3 1 (.slice (some ⟨g, 0, none⟩) (ls.mergeSort fun x y => decide (x ≤ y)).length cc) (ls.mergeSort fun x y => decide (x ≤ y)).length (V (ls.mergeSort fun x y => decide (x ≤ y)))) := Lib.hid (by rw [hw1]; exact put_own (by simp) OWN.out); have G1 : W.grownBy w1 (some g) := (by rw [hw1]; exact put_grown _); clear hw1; have hs1 := G1.size; have A1 : Arr w1 (w.heap.size + 1) [.slice (some ⟨g, 0, none⟩) ls.length cc] 23 := (G1.block _ HA.out.lt (by simp; omega)).trans HA.out; have D2 : w1.heap[ws.heap.size]? = some (.deferred (some [])) := (G1.block _ (by omega) (by simp; omega)).trans HD.out; have HA1 := Lib.hid A1; have HD1 := Lib.hid D2; have HB1 := Lib.hid (HB.out.trans ((Below.refl _ _).grown G1 HB.out.size (fun b e => by injection e with e; omega))); have hc1 := A1.cell (k := 0) rfl; have CR := Try.slices_Reverse_int g 0 cc (ls.mergeSort fun x y => decide (x ≤ y)) w1 (holds_row O1.out) (by simp; omega); rw [List.length_mergeSort] at CR; have CRH := Lib.hid CR; clear CR G1 A1 D2 hc)
    refine (callsIn_wide.2 CRH.out).mono ?_
    rintro e w2 ⟨rfl, nn2, hw2⟩
    have O2 : Hid (w2.ownsRow D1 3 1 (.slice (some ⟨g, 0, none⟩) ls.length cc) ls.length (V (sortD ls))) := Lib.hid (by
      have h := put_own (n := nn2) (os := #[]) (m := (ls.mergeSort fun x y => decide (x ≤ y)).reverse) (by simp) O1.out
      rw [grow_none, ← hw2, sort_desc, sortD_len] at h
      exact h)
    have G2 : w1.grownBy w2 (some g) := by
      rw [hw2]
      have h := put_grown (w := w1) (g := g) (n := nn2) (os := #[]) (ls.mergeSort fun x y => decide (x ≤ y)).reverse.toArray
      rwa [grow_none] at h
    clear hw2
    have hs2 := G2.size
    have A2 : Arr w2 (w.heap.size + 1) [.slice (some ⟨g, 0, none⟩) ls.length cc] 23 := (G2.block _ HA1.out.lt (by simp; omega)).trans HA1.out
    have D2 : Hid (w2.heap[ws.heap.size]? = some (.deferred (some []))) := Lib.hid ((G2.block _ (by omega) (by simp; omega)).trans HD1.out)
    have HB2 := Lib.hid (HB1.out.trans ((Below.refl _ _).grown G2 HB1.out.size (fun b e => by injection e with e; omega)))
    have hc2 := A2.cell (k := 0) rfl
    clear G2 A2 hc1 CRH
    gi_wp2
    refine ⟨by simp, .inl ⟨_, _, rfl, run_takeDeferred D2.out, ?_⟩⟩
    refine ⟨_, results_tmp rfl _ _ _, _, rfl, ?_, ?_⟩
    · rw [sortD_len]
      exact own_base (own_out O2.out h1 (out_put (lo := ws.heap.size) (hi := ws.heap.size + 2) _ (Nat.le_refl _) (by omega))) (by omega)
    · exact HB2.out.trans ((out_put (lo := ws.heap.size) (hi := ws.heap.size + 2) _ (Nat.le_refl _) (by omega)).below (by omega) HB2.out.size)
  case stop => exact fun _ _ _ _ h _ => h.elim
end Go.Proofs.Ytpmojmhamgcfmaa.gl
