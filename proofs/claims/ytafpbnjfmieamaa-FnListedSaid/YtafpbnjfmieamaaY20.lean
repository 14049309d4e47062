import Derived.Test.YtafpbnjfmieamaaY08
import Derived.Test.YtafpbnjfmieamaaY17
import Derived.Test.YtafpbnjfmieamaaY18
import Derived.Great.BuildSlice
import Derived.Great.FillDense
import Derived.Deep.RegionLaw
import Derived.Test.YtafpbnjfmieamaaY03
/-
  allPerms: every permutation of a few elements, by swaps.
-/
namespace Go.Proofs.Ytafpbnjfmieamaa.lst
open Go.ChangeShapes Go.WideShapes Go.ChangeAt Go.RowKit
open Go.Proofs.Ytafpbnjfmieamaa.mem Go.Proofs.Ytafpbnjfmieamaa.ints Go.Proofs.Ytafpbnjfmieamaa.arr Go.Proofs.Ytafpbnjfmieamaa.pm Go.Proofs.Ytafpbnjfmieamaa.sf Go.Proofs.Ytafpbnjfmieamaa.gl Go.Proofs.Ytafpbnjfmieamaa.orb Go.Proofs.Ytafpbnjfmieamaa.lp
set_option linter.unusedVariables false
set_option maxRecDepth 100000

/-- Two elements swapped. -/
def swp (p : List Int) (i l : Nat) : List Int := (p.set i (p.getD l 0)).set l (p.getD i 0)
theorem swp_len (p : List Int) (i l : Nat) : (swp p i l).length = p.length := by simp [swp]
def swN (p : List Int) (l : Nat) : Nat → List (List Int)
  | 0 => []
  | i + 1 => swN p l i ++ [swp p i l]
theorem swN_len (p : List Int) (l : Nat) : ∀ i, (swN p l i).length = i
  | 0 => rfl
  | i + 1 => by simp [swN, swN_len p l i]
/-- One round: each permutation with its element l swapped with each up to it. -/
def swR (L : List (List Int)) (l : Nat) : List (List Int) := L.flatMap fun p => swN p l (l + 1)
def prI : Nat → List (List Int)
  | 0 => [idl]
  | k + 1 => swR (prI k) k
theorem swR_take {L : List (List Int)} {l a : Nat} {p : List Int} (h : L[a]? = some p) : swR (L.take (a + 1)) l = swR (L.take a) l ++ swN p l (l + 1) := by
  rw [List.take_add_one, h]
  simp [swR]
theorem swR_len (l : Nat) : ∀ L : List (List Int), (swR L l).length = L.length * (l + 1)
  | [] => by simp [swR]
  | p :: L => by
    have := swR_len l L
    unfold swR at this ⊢
    rw [List.flatMap_cons, List.length_append, this, swN_len, List.length_cons, Nat.add_mul]
    omega
theorem prI_few : ∀ k : Fin 5, (prI k.val).length ≤ 24 ∧ ((prI k.val).all fun p => decide (p.length = 24)) = true := by decide +kernel
theorem prI_ok {k : Nat} (h : k ≤ 4) : (prI k).length ≤ 24 ∧ ∀ p ∈ prI k, p.length = 24 := by
  obtain ⟨a, b⟩ := prI_few ⟨k, by omega⟩
  exact ⟨a, fun p hp => by simpa using List.all_eq_true.1 b p hp⟩
/-- The cells of permutations, one behind the other. -/
def flP (L : List (List Int)) : List Value := L.flatMap V
theorem flP_at : ∀ {L : List (List Int)} {k : Nat} {p : List Int}, (∀ q ∈ L, q.length = 24) → L[k]? = some p → ∀ (j : Nat) v, (V p)[j]? = some v → (flP L)[k * 24 + j]? = some v
  | [], k, s, _, h, _, _, _ => by simp at h
  | x :: L, 0, s, _, h, j, v, hj => by
    obtain rfl : x = s := by simpa using h
    unfold flP
    rw [List.flatMap_cons, Nat.zero_mul, Nat.zero_add, List.getElem?_append_left (List.getElem?_eq_some_iff.1 hj).1]
    exact hj
  | x :: L, k + 1, s, hl, h, j, v, hj => by
    have := flP_at (L := L) (k := k) (fun q hq => hl q (List.mem_cons_of_mem _ hq)) (by simpa using h) j v hj
    have lx : (V x).length = 24 := by rw [V_len]; exact hl x (List.mem_cons_self ..)
    unfold flP at this ⊢
    rw [List.flatMap_cons, List.getElem?_append_right (by rw [lx]; omega), lx, show (k + 1) * 24 + j - 24 = k * 24 + j by omega]
    exact this
theorem flP_snoc (L : List (List Int)) (p : List Int) : flP (L ++ [p]) = flP L ++ V p := by simp [flP]
section
variable {P : Program}
/-- What was just laid is written over whole: the world behind it by what is known of it. -/
theorem wpList_store_fresh {ops : Array Oper} {rest : List Oper} {o : Oper} {a : Act} {w : World} {Q : Exit → Act → World → Prop} (hgd : o.guard = none) (T : TypeId) (p x : Operand) (ho : o.op = .store T p x) (cs : List Value) (zs : Array Value)
    (hp : a.eval p = .pointer (some ⟨w.heap.size, 0, none⟩)) (hx : a.eval x = .agg cs.toArray) (hs : (P.info? T).map (·.size) = some cs.toArray.size) (hz : zs.size = cs.toArray.size) (h1 : cs.toArray.all (·.oneCell') = true)
    (h : ∀ W, Below w.heap.size w W → Arr W w.heap.size cs T → W.heap.size = w.heap.size + 1 → wpList P ops Q rest (a.put o.dst undef) W) : wpList P ops Q (o :: rest) a (w.alloc (.cells zs T)) := by
  refine wpList_store_row hgd T _ _ ho w.heap.size cs.toArray hp hx T zs (heap_alloc_last w _) hs hz h1 ?_
  exact h _ (arr.below_setRow ((Below.refl _ _).alloc (Nat.le_refl _) _) (Nat.le_refl _) _) (setRow_heap _ _ _ _ _ _ (heap_alloc_last w _)) (by simp)
end
theorem infoP : (Try.prog.info? 60).map (fun i => (i.zero, i.size, i.bytes)) = some (some (.agg (V zeros).toArray), 24, 192) := by kernel_rfl
theorem wpList_bs_pm {ops : Array Oper} {rest : List Oper} {o : Oper} {a : Act} {w : World} {Q : Exit → Act → World → Prop} (hgd : o.guard = none) (x : Operand) (ho : o.op = .buildSlice 81 1 #[(0, x)])
    (L : List Int) (hL : L.length = 24) (hx : a.eval x = .agg (V L).toArray)
    (h : wpList Try.prog ops Q rest (a.put o.dst (.slice (some ⟨w.heap.size, 0, none⟩) 1 1)) (w.alloc (.cells (V L).toArray 60))) : wpList Try.prog ops Q (o :: rest) a w := by
  obtain ⟨i, hi, hz, hs, hb⟩ := info_parts infoP
  refine wpList_buildSlice hgd 81 60 1 _ ho (V L).toArray i _ Try.underlying81 hi hz (by rw [hs]; decide) (by rw [hs]; decide) ?_ h
  rw [hs]
  have := Great.fill_whole (s := 24) (by decide) [.agg (V L).toArray] ((Array.range (1 * 24)).map ((Value.agg (V zeros).toArray).cells[· % (Value.agg (V zeros).toArray).cells.size]!)) (by simp [Value.cells, V_len, hL]) (by simp)
  simpa [hx, Value.cells] using this
/-- A list of permutations in a row of its own. -/
structure Pr (w wr : World) (base : Nat) (v : Value) (L : List (List Int)) : Prop where
  own : wr.ownsRow base 60 24 v L.length (flP L)
  bel : Below w.heap.size w wr
theorem Pr.keep {w wr w' : World} {base : Nat} {v : Value} {L : List (List Int)} (h : Pr w wr base v L) (hb : Below wr.heap.size wr w') : Pr w w' base v L := ⟨own_block_keep h.own (fun b e => hb.block b (h.own.lt b e).2), h.bel.trans (hb.mono h.bel.size)⟩
set_option maxHeartbeats 4000000 in
theorem allPerms_any (n : Nat) (hn : n ≤ 4) (w : World) :
    Calls Try.prog 48 #[.int .i64 n] w fun e w' => ∃ v, e = .returned v ∧ Pr w w' w.heap.size v (prI n) := by
  obtain ⟨i0, hi0, hz0, hzs, hzb⟩ := info_parts infoP
  have zc : ((Value.agg (V zeros).toArray).cells).size = 24 := by kernel_rfl
  have IL : idl.length = 24 := tab_len _
  go_enter Try.func48, Try.ntmps48
  go_wp2_with fail
  refine (staying_any _).mono ?_
  rintro e w1 ⟨rfl, b1⟩
  have ST : Hid (∃ W, W = w1.alloc (.cells (V idl).toArray 60) ∧ Pr w W w.heap.size (.slice (some ⟨w1.heap.size, 0, none⟩) 1 1) (prI 0)) := Lib.hid (by
    refine ⟨_, rfl, ⟨⟨rfl, .inr ⟨w1.heap.size, 1, _, rfl, b1.size, heap_alloc_last w1 _, Nat.le_refl _, by unfold maxLen; omega, by simp [V_len, IL], by
      show List.take 24 (V idl) = flP [idl]
      rw [List.take_of_length_le (by rw [V_len, IL]; omega)]
      simp [flP]⟩⟩, b1.alloc b1.size _⟩⟩)
  clear b1
  generalize hI : idl = I at *
  go_wp2_with (refine wpList_bs_pm rfl _ rfl I IL rfl ?_)
  obtain ⟨w2, eW, pr0⟩ := ST.out
  rw [← eW]
  have PR0 := Lib.hid pr0
  clear eW pr0 ST hI IL
  go_loopw [3, 13] (fun vo i wr => ∃ k : Nat, k ≤ n ∧ i = .int .i64 k ∧ Pr w wr w.heap.size vo (prI k)) (fun _ i _ => n - (intOf i).toNat)
  case atStart => exact ⟨0, Nat.zero_le _, rfl, PR0.out⟩
  case round =>
    obtain ⟨k, hk, rfl, pr⟩ := hrel
    have PR := Lib.hid pr; clear pr PR0
    by_cases hlt : k < n
    · obtain ⟨l24, lall⟩ := prI_ok (k := k) (by omega)
      have LA := Lib.hid lall; clear lall
      have EN : Hid (prI (k + 1) = swR (prI k) k) := Lib.hid rfl
      have LB : (prI k).length * (k + 1) ≤ 96 := by
        have h2 : (prI k).length * (k + 1) ≤ 24 * 4 := Nat.mul_le_mul l24 (by omega)
        omega
      generalize prI k = L at *
      obtain ⟨A, c, rfl⟩ := mem.own_form PR.out.own
      go_wp2_with fail
      obtain ⟨wo, rfl⟩ : ∃ wo : World, wo = wr := ⟨_, rfl⟩
      have M0 : Hid (Pr wo wo wo.heap.size (.slice none 0 0) (swR (L.take 0) k)) := Lib.hid ⟨⟨by simp [swR, flP], .inl ⟨rfl, by simp [swR]⟩⟩, Below.refl _ _⟩
      go_loopw [5, 18] (fun vm i wr => ∃ a : Nat, a ≤ L.length ∧ i = .int .i64 a ∧ Pr wo wr wo.heap.size vm (swR (L.take a) k)) (fun _ i _ => L.length - (intOf i).toNat)
      case atStart => exact ⟨0, Nat.zero_le _, rfl, M0.out⟩
      case round =>
        obtain ⟨a, ha, rfl, pm⟩ := hrel
        have MR := Lib.hid pm; clear pm M0
        by_cases hal : a < L.length
        · obtain ⟨p, hp⟩ : ∃ p, L[a]? = some p := ⟨_, List.getElem?_eq_getElem hal⟩
          have PL : p.length = 24 := LA.out p (List.mem_of_getElem? hp)
          have ES := Lib.hid (swR_take (l := k) hp)
          have LM : (swR (L.take a) k).length = a * (k + 1) := by rw [swR_len, List.length_take, Nat.min_eq_left ha]
          have LM2 : a * (k + 1) ≤ 96 := Nat.le_trans (Nat.mul_le_mul_right _ ha) LB
          have OW := Lib.hid PR.out.own
          have hA : ∃ g, A = some ⟨g, 0, none⟩ ∧ g < wo.heap.size := by
            rcases OW.out.2 with ⟨q, q2⟩ | ⟨g, cap, cur, q, _, h2, _⟩
            · omega
            · injection q with q1 q2 q3
              exact ⟨g, q1, (Array.getElem?_eq_some_iff.1 h2).1⟩
          obtain ⟨g, rfl, hg⟩ := hA
          have HC : Hid (∀ (j : Nat) v, (V p)[j]? = some v → wr.cell? ⟨g, a * 24 + j, none⟩ = some v) := Lib.hid (fun j v hv => by
            have e := OW.out.cells (g := g) rfl (a * 24 + j) v (flP_at LA.out hp j v hv)
            rw [show ((⟨g, 0, none⟩ : Addr).add (a * 24 + j)) = ⟨g, a * 24 + j, none⟩ by unfold Addr.add; split <;> simp_all] at e
            rw [MR.out.bel.cell (p := ⟨g, a * 24 + j, none⟩) hg]
            exact e)
          have HSZ : (Try.prog.info? 60).map (·.size) = some (V p).length := by rw [info44, V_len, PL]
          have HS2 : (Try.prog.info? 60).map (·.size) = some (V p).toArray.size := size_V PL
          have HZ : (#[.int .i64 0, .int .i64 0, .int .i64 0, .int .i64 0, .int .i64 0, .int .i64 0, .int .i64 0, .int .i64 0, .int .i64 0, .int .i64 0, .int .i64 0, .int .i64 0, .int .i64 0, .int .i64 0, .int .i64 0, .int .i64 0, .int .i64 0, .int .i64 0, .int .i64 0, .int .i64 0, .int .i64 0, .int .i64 0, .int .i64 0, .int .i64 0] : Array Value).size = (V p).toArray.size := by simp [V_len, PL]
          generalize hM : swR (L.take a) k = M at *
          clear hM hp
          go_wp2_with (first | (refine wpList_load_part rfl 60 _ rfl g (a * 24) rfl (V p) _ HC.out Try.underlying60 rfl HSZ ?_) | (refine wpList_store_fresh rfl 60 _ _ rfl (V p) _ rfl rfl HS2 HZ (one_V p) ?_; intro wp bp ap sp))
          have AP := Lib.hid ap
          have M1 : Hid (Pr wo wp wo.heap.size u5 (M ++ swN p k 0)) := Lib.hid (by rw [swN, List.append_nil]; exact MR.out.keep bp)
          have N1 : Hid (¬ u5.ownBlock = some wr.heap.size) := Lib.hid (fun e => by have := (MR.out.own.lt _ e).2; omega)
          have hbp : wr.heap.size < wp.heap.size := by omega
          have hwo : wo.heap.size ≤ wr.heap.size := MR.out.bel.size
          generalize wr.heap.size = b7 at *
          clear ap bp sp MR HC HSZ
          go_loopw [5, 24] (fun vm i wr => ∃ j : Nat, j ≤ k + 1 ∧ i = .int .i64 j ∧ Pr wo wr wo.heap.size vm (M ++ swN p k j) ∧ Arr wr b7 (V p) 60 ∧ ¬ vm.ownBlock = some b7) (fun _ i _ => k + 1 - (intOf i).toNat)
          case atStart => exact ⟨0, Nat.zero_le _, rfl, M1.out, AP.out, N1.out⟩
          case round =>
            obtain ⟨j, hj, rfl, pj, aj, nj⟩ := hrel
            have PJ := Lib.hid pj; have AJ := Lib.hid aj; have NJ := Lib.hid nj; clear pj aj nj M1 AP N1
            by_cases hjl : j < k + 1
            · have hk24 : k < 24 := by omega
              have hj24 : j < 24 := by omega
              have s0 := AJ.out.lt
              go_wp2_with (first | (refine wpList_load_row rfl 60 _ rfl b7 rfl 60 (V p).toArray (0, 0) _ AJ.out Try.underlying60 rfl HS2 ?_) | (refine wpList_store_fresh rfl 60 _ _ rfl (V p) _ rfl rfl HS2 HZ (one_V p) ?_; intro wq bq aq sq))
              have PJ2 := Lib.hid (PJ.out.keep bq); have AJ2 := Lib.hid (AJ.out.keep bq AJ.out.lt); have AQ := Lib.hid aq
              have NJ2 : Hid (∀ e, u5.ownBlock = some e → e < wr.heap.size) := Lib.hid (fun e q => (PJ.out.own.lt e q).2)
              have hwr := PJ.out.bel.size
              generalize hb9 : wr.heap.size = b9 at *
              clear bq aq PJ AJ
              refine wp_region_held_drew (S := Hld wo.heap.size wq.heap.size wq [(b7, V p)]) (by kernel_rfl) (Hld.lower (Hld.start (fun q hq => by
                rcases List.mem_cons.1 hq with rfl | hq
                · exact ⟨AJ2.out.lt, fun i v hv => by rw [Nat.zero_add]; exact AJ2.out.cell hv⟩
                · simp at hq)) (by omega)) (fun hHeld => ?_)
              have b1 : Below wq.heap.size wq wq.drew := ⟨rfl, rfl, rfl, Nat.le_refl _, fun _ _ => rfl⟩
              have PJ3 := Lib.hid (PJ2.out.keep b1); have AJ3 := Lib.hid (AJ2.out.keep b1 AJ2.out.lt); have AQ3 : Hid (Arr wq.drew b9 (V p) 60) := Lib.hid (AQ.out.keep b1 AQ.out.lt)
              have s1 := b1.size
              generalize hw3 : wq.drew = w3 at *
              clear b1 PJ2 AJ2 AQ hw3
              have hbj : (j : Int) < 24 := by omega
              have hbk : (k : Int) < 24 := by omega
              have ek := V_getD (l := p) (k := k) (by omega)
              have ej := V_getD (l := p) (k := j) (by omega)
              refine wpAnyH_take (i := 0) (v := .int .i64 j) rfl (by kernel_rfl) (by kernel_rfl) (by kernel_rfl) (fun _ _ _ h => h) (Or.inl ⟨by kernel_rfl, fun w hSw => by go_simp⟩) hHeld ?_
              refine wpAnyH_take (i := 1) (v := .int .i64 k) rfl (by kernel_rfl) (by kernel_rfl) (by kernel_rfl) (fun _ _ _ h => h) (Or.inl ⟨by kernel_rfl, fun w hSw => by go_simp⟩) hHeld ?_
              refine wpAnyH_take (i := 2) (v := .int .i64 k) rfl (by kernel_rfl) (by kernel_rfl) (by kernel_rfl) (fun _ _ _ h => h) (Or.inl ⟨by kernel_rfl, fun w hSw => by go_simp⟩) hHeld ?_
              refine wpAnyH_take (i := 3) (v := .pointer (some ⟨b7, k, none⟩)) rfl (by kernel_rfl) (by kernel_rfl) (by kernel_rfl) (fun _ _ _ h => h) (Or.inl ⟨by kernel_rfl, fun w hSw => by go_simp⟩) hHeld ?_
              refine wpAnyH_take (i := 4) (v := .int .i64 (p.getD k 0)) rfl (by kernel_rfl) (by kernel_rfl) (by kernel_rfl) (fun _ _ _ h => h) (Or.inl ⟨by kernel_rfl, fun w hSw => by have c4 := hSw.fst k _ ek; rw [Nat.zero_add] at c4; go_simp⟩) hHeld ?_
              refine wpAnyH_take (i := 5) (v := .int .i64 j) rfl (by kernel_rfl) (by kernel_rfl) (by kernel_rfl) (fun _ _ _ h => h) (Or.inl ⟨by kernel_rfl, fun w hSw => by go_simp⟩) hHeld ?_
              refine wpAnyH_take (i := 6) (v := .pointer (some ⟨b7, j, none⟩)) rfl (by kernel_rfl) (by kernel_rfl) (by kernel_rfl) (fun _ _ _ h => h) (Or.inl ⟨by kernel_rfl, fun w hSw => by go_simp⟩) hHeld ?_
              refine wpAnyH_take (i := 7) (v := .int .i64 (p.getD j 0)) rfl (by kernel_rfl) (by kernel_rfl) (by kernel_rfl) (fun _ _ _ h => h) (Or.inl ⟨by kernel_rfl, fun w hSw => by have c7 := hSw.fst j _ ej; rw [Nat.zero_add] at c7; go_simp⟩) hHeld ?_
              refine wpAnyH_take (i := 8) (v := .pointer (some ⟨b9, j, none⟩)) rfl (by kernel_rfl) (by kernel_rfl) (by kernel_rfl) (fun _ _ _ h => h) (Or.inl ⟨by kernel_rfl, fun w hSw => by go_simp⟩) hHeld ?_
              refine wpAnyH_ready (rs := [9]) (by kernel_rfl) (by simp) (AllReadyH.cons rfl (fun K hK => ?_) AllReadyH.nil)
              have c9 : w3.cell? ⟨b9, j, none⟩ = some (.int .i64 (p.getD j 0)) := AQ3.out.cell ej
              have f9 : w3.frozen? ⟨b9, j, none⟩ = false := AQ3.out.frozen j
              go_simp
              rw [setCell_eq_setRow w3 b9 j _ _ _ _ AQ3.out]
              have hb79 : b7 ≠ b9 := by omega
              have e1 : ((V p).toArray.setIfInBounds j (Value.int .i64 p[k])) = (V (p.set j (p.getD k 0))).toArray := by rw [← V_set]; simp [PL, hk24]
              rw [e1]
              have AQ4 : Hid (Arr (w3.setRow b9 (V (p.set j (p.getD k 0))).toArray) b9 (V (p.set j (p.getD k 0))) 60) := Lib.hid AQ3.out.row
              have O4 : Hid (∀ q, q ≠ b9 → (w3.setRow b9 (V (p.set j (p.getD k 0))).toArray).heap[q]? = w3.heap[q]?) := Lib.hid (fun q hq => setRow_other _ _ _ _ hq)
              have E4 : Hid ((w3.setRow b9 (V (p.set j (p.getD k 0))).toArray).os = w3.os ∧ (w3.setRow b9 (V (p.set j (p.getD k 0))).toArray).tape = w3.tape ∧ (w3.setRow b9 (V (p.set j (p.getD k 0))).toArray).output = w3.output ∧ (w3.setRow b9 (V (p.set j (p.getD k 0))).toArray).heap.size = w3.heap.size) := Lib.hid ⟨rfl, rfl, rfl, by simp⟩
              have hH4 := hHeld.other (g := b9) (by omega) (fun q hq => by
                have := List.mem_singleton.1 hq
                subst this
                exact hb79) (V (p.set j (p.getD k 0))).toArray
              clear e1 c9 f9
              refine hK.out _ _ hH4 (fun hHeld2 => ?_)
              clear hK K hHeld2 hHeld
              generalize w3.setRow b9 (V (p.set j (p.getD k 0))).toArray = w4 at *
              refine wpAnyH_ready (rs := [10]) (by kernel_rfl) (by simp) (AllReadyH.cons rfl (fun K hK => ?_) AllReadyH.nil)
              go_simp
              refine hK.out _ _ hH4 (fun hHeld2 => ?_)
              clear hK K hHeld2
              have QL : (p.set j (p.getD k 0)).length = 24 := by simp [PL]
              have HW : Hid ((p.set j (p.getD k 0)).set k (p.getD j 0) = swp p j k) := Lib.hid rfl
              generalize p.set j (p.getD k 0) = q1 at *
              have c9 : w4.cell? ⟨b9, k, none⟩ = some (.int .i64 (q1.getD k 0)) := AQ4.out.cell (V_getD (by omega))
              have f9 : w4.frozen? ⟨b9, k, none⟩ = false := AQ4.out.frozen k
              refine wpAnyH_ready (rs := [11]) (by kernel_rfl) (by simp) (AllReadyH.cons rfl (fun K hK => ?_) AllReadyH.nil)
              go_simp
              rw [setCell_eq_setRow w4 b9 k _ _ _ _ AQ4.out]
              have e1 : ((V q1).toArray.setIfInBounds k (Value.int .i64 p[j])) = (V (swp p j k)).toArray := by rw [← HW.out, ← V_set]; simp [PL, hj24]
              rw [e1]
              have AQ5 : Hid (Arr (w4.setRow b9 (V (swp p j k)).toArray) b9 (V (swp p j k)) 60) := Lib.hid AQ4.out.row
              have O5 : Hid (∀ q, q ≠ b9 → (w4.setRow b9 (V (swp p j k)).toArray).heap[q]? = w3.heap[q]?) := Lib.hid (fun q hq => (setRow_other _ _ _ _ hq).trans (O4.out q hq))
              have E5 : Hid ((w4.setRow b9 (V (swp p j k)).toArray).os = w3.os ∧ (w4.setRow b9 (V (swp p j k)).toArray).tape = w3.tape ∧ (w4.setRow b9 (V (swp p j k)).toArray).output = w3.output ∧ (w4.setRow b9 (V (swp p j k)).toArray).heap.size = w3.heap.size) := Lib.hid ⟨E4.out.1, E4.out.2.1, E4.out.2.2.1, by have := E4.out.2.2.2; simp; omega⟩
              have hH5 := hH4.other (g := b9) (by omega) (fun q hq => by
                have := List.mem_singleton.1 hq
                subst this
                exact hb79) (V (swp p j k)).toArray
              refine hK.out _ _ hH5 (fun hHeld2 => ?_)
              clear hK K hHeld2 hH4 e1 c9 f9 AQ4 O4 E4
              generalize w4.setRow b9 (V (swp p j k)).toArray = w5 at *
              refine wpAnyH_done (by kernel_rfl) ?_ _
              clear hH5
              go_simp
              have SL : (swp p j k).length = 24 := by rw [swp_len]; exact PL
              have HS5 : (Try.prog.info? 60).map (·.size) = some (V (swp p j k)).toArray.size := size_V SL
              have s5 := E5.out.2.2.2
              have OW5 : Hid (w5.ownsRow wo.heap.size 60 24 u5 (M ++ swN p k j).length (flP (M ++ swN p k j))) := Lib.hid (own_block_keep PJ3.out.own (fun e q => O5.out e (fun x => by have := NJ2.out e q; omega)))
              have BL5 : Hid (Below wo.heap.size wo w5) := Lib.hid ⟨E5.out.1.trans PJ3.out.bel.os, E5.out.2.1.trans PJ3.out.bel.tape, E5.out.2.2.1.trans PJ3.out.bel.output, by have := PJ3.out.bel.size; omega, fun e he => (O5.out e (by omega)).trans (PJ3.out.bel.block e he)⟩
              have AP5 : Hid (Arr w5 b7 (V p) 60) := Lib.hid ((O5.out b7 hb79).trans AJ3.out)
              have LX : (M ++ swN p k j).length ≤ 101 := by rw [List.length_append, swN_len]; omega
              have EX : Hid (M ++ swN p k (j + 1) = (M ++ swN p k j) ++ [swp p j k]) := Lib.hid (by rw [swN, List.append_assoc])
              generalize hX : M ++ swN p k j = X at *
              generalize hT : swp p j k = T at *
              have OA : Hid ((w5.alloc (.cells (V T).toArray 60)).ownsRow wo.heap.size 60 24 u5 X.length (flP X)) := Lib.hid (OW5.out.alloc _)
              have HN : Hid (∀ (i : Nat) u, (V T)[i]? = some u → (w5.alloc (.cells (V T).toArray 60)).cell? ((⟨w5.heap.size, 0, none⟩ : Addr).add i) = some u) := Lib.hid (fun i u hu => by
                rw [show ((⟨w5.heap.size, 0, none⟩ : Addr).add i) = ⟨w5.heap.size, i, none⟩ by unfold Addr.add; split <;> simp_all]
                exact (Arr.new w5 (V T) 60 rfl).cell hu)
              have VL : (V T).length = 1 * 24 := by rw [V_len, SL]
              have h63 : X.length + 1 ≤ maxLen := by unfold maxLen; omega
              have hby : (X.length + 1) * 192 ≤ 140737488355328 := by omega
              have hba : wo.heap.size ≤ (w5.alloc (.cells (V T).toArray 60)).heap.size := by simp; omega
              have V1 : Hid (∀ u ∈ V T, u.oneCell' = true) := Lib.hid (by
                intro u hu
                unfold V at hu
                obtain ⟨z, _, rfl⟩ := List.mem_map.1 hu
                rfl)
              clear hX PJ3 AJ3 AQ3 hT HW
              go_wp2_with (first | (refine wpList_load_row rfl 60 _ rfl b9 rfl 60 (V T).toArray (0, 0) _ AQ5.out Try.underlying60 rfl HS5 ?_) | (refine wpList_bs_pm rfl _ rfl T SL rfl ?_) | (at_builtin; refine wpList_append_lies (w5.alloc (.cells (V T).toArray 60)) rfl _ _ 81 rfl wo.heap.size 60 i0 _ 24 192 Try.underlying81 hi0 hz0 hzs hzb zc (by decide) u5 X.length (flP X) rfl OA.out ⟨w5.heap.size, 0, none⟩ 1 1 (V T) rfl VL HN.out V1.out (by decide) h63 hby hba (w5.heap.size + 1) (by simp) ?_))
              intro g6 cap6 w6 ho6 hg6 hb6 hl6
              have P6 : Hid (Pr wo w6 wo.heap.size (.slice (some ⟨g6, 0, none⟩) (X.length + 1) cap6) (X ++ [T])) := Lib.hid ⟨by
                rw [flP_snoc, List.length_append, List.length_singleton]
                exact ho6, (BL5.out.alloc BL5.out.size _).trans (own_below OA.out hg6 (Nat.le_refl _) hba)⟩
              have A6 : Hid (Arr w6 b7 (V p) 60) := Lib.hid ((hg6.block b7 (by have := AP5.out.lt; simp; omega) (fun e => NJ.out e.symm)).trans (AP5.out.alloc _))
              have N6 : Hid (¬ (Value.slice (some ⟨g6, 0, none⟩) (X.length + 1) cap6).ownBlock = some b7) := Lib.hid (fun e => by
                have e2 : g6 = b7 := by simpa [Value.ownBlock] using e
                rcases hb6 with q | q
                · exact NJ.out (by rw [q, e2])
                · have := AP5.out.lt; omega)
              clear ho6 hg6 hb6 hl6 OA HN AP5 OW5 BL5 AQ5 O5 E5 NJ
              go_wp2_with fail
              go_roundw
              case rel => exact ⟨j + 1, by omega, by go_num, by rw [EX.out]; exact P6.out, A6.out, N6.out⟩
              case measure => simp [intOf]; omega
            · obtain rfl : j = k + 1 := by omega
              have PE : Hid (Pr wo wr wo.heap.size u5 (swR (L.take (a + 1)) k)) := Lib.hid (by rw [ES.out]; exact PJ.out)
              clear PJ AJ NJ
              go_wp2_with fail
              go_roundw
              case rel => exact ⟨a + 1, by omega, by go_num, PE.out⟩
              case measure => simp [intOf]; omega
        · obtain rfl : a = L.length := by omega
          have PE : Hid (Pr w wr w.heap.size u5 (prI (k + 1))) := Lib.hid (by
            have h1 := MR.out
            rw [List.take_of_length_le (Nat.le_refl _), ← EN.out] at h1
            have s0 := PR.out.bel.size
            refine ⟨⟨h1.own.1, ?_⟩, PR.out.bel.trans (h1.bel.mono s0)⟩
            rcases h1.own.2 with q | ⟨g, cap, cur, q1, q2, q3⟩
            · exact .inl q
            · exact .inr ⟨g, cap, cur, q1, Nat.le_trans s0 q2, q3⟩)
          clear MR PR
          go_wp2_with fail
          go_roundw
          case rel => exact ⟨k + 1, by omega, by go_num, PE.out⟩
          case measure => simp [intOf]; omega
    · obtain rfl : k = n := by omega
      go_wp2_with fail
      go_ret
      exact ⟨_, rfl, PR.out⟩
end Go.Proofs.Ytafpbnjfmieamaa.lst

/-
  The program's order of the pairs gives the same list of forms. Plain mathematics.
-/
namespace Go.Proofs.Ytafpbnjfmieamaa.lst
open Go.Proofs.Ytafpbnjfmieamaa.pm Go.Proofs.Ytafpbnjfmieamaa.orb Go.Proofs.Ytafpbnjfmieamaa.arr
set_option linter.unusedVariables false
set_option maxRecDepth 100000

def cut (n : Nat) (p : List Int) : List Int := p.take n
def prC (n : Nat) : List (List Int) := (prI n).map (cut n)
set_option maxRecDepth 100000 in
theorem alI_kernel : ∀ n : Fin 5, allP n.val [] (prC n.val) (prC n.val) = swL n.val := by decide +kernel
set_option maxRecDepth 100000 in
theorem prI_kernel : ∀ n : Fin 5, ((prI n.val).all fun p => decide (p = ext (cut n.val p)) && okB (cut n.val p) && decide ((cut n.val p).length = n.val)) = true := by decide +kernel
end Go.Proofs.Ytafpbnjfmieamaa.lst

/-
  What the program's permutations are. Plain mathematics.
-/
namespace Go.Proofs.Ytafpbnjfmieamaa.lst
open Go.Proofs.Ytafpbnjfmieamaa.pm Go.Proofs.Ytafpbnjfmieamaa.orb Go.Proofs.Ytafpbnjfmieamaa.arr Go.Proofs.Ytafpbnjfmieamaa.permOf
set_option linter.unusedVariables false
set_option maxRecDepth 100000

theorem prI_perm {n : Nat} (hn : n ≤ 4) {p : List Int} (hp : p ∈ prI n) : p = ext (cut n p) ∧ Ok (cut n p) ∧ (cut n p).length = n := by
  have := List.all_eq_true.1 (prI_kernel ⟨n, by omega⟩) p hp
  simp only [Bool.and_eq_true, decide_eq_true_eq] at this
  exact ⟨this.1.1, Ok.of _ this.1.2, this.2⟩
theorem prC_at {n a : Nat} {p : List Int} (h : (prI n)[a]? = some p) : (prC n)[a]? = some (cut n p) := by simp [prC, h]
theorem prC_len (n : Nat) : (prC n).length = (prI n).length := by simp [prC]
/-- Reached by both from the first element: all, exactly if they are transitive. -/
theorem reach_tr {n : Nat} (hn : n ≤ 4) (h0 : 0 < n) {p q : List Int} (hp : p ∈ prI n) (hq : q ∈ prI n) : decide ((reach p q 0).length = n) = transB (cut n p) (cut n q) := by
  obtain ⟨e1, o1, l1⟩ := prI_perm hn hp
  obtain ⟨e2, o2, l2⟩ := prI_perm hn hq
  have e := reach_ext o1 o2 (by rw [l1, l2]) (f := 0) (by omega) (by omega)
  rw [← e1, ← e2] at e
  rw [e]
  unfold transB
  have h1 : okBB (cut n p) (cut n q) = true := by
    unfold okBB
    simp [o1.b, o2.b, l1, l2]
  rw [h1, l1]
  simp [h0]
end Go.Proofs.Ytafpbnjfmieamaa.lst
