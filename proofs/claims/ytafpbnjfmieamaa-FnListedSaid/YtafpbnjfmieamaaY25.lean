import Derived.Test.YtafpbnjfmieamaaY24
import Derived.Test.YtafpbnjfmieamaaY21
import Derived.Test.YtafpbnjfmieamaaY23
import Derived.Test.YtafpbnjfmieamaaY05
import Derived.RangeFuncNested
import Derived.RangeFuncBound
import Derived.RangeFuncCalls
import Derived.RangeFuncLeaves
import Derived.OwnWalkIn
import Derived.TacticsInMore
import Derived.LoopNIn
import Derived.LoopIn
import Derived.Test.YtafpbnjfmieamaaY17
import Derived.Shelf.Slices.Turned
import Derived.Shelf.Slices.Reverse
import Derived.Shelf.Sort.Plain
import Derived.Shelf.Slices.In.SortNone
import Derived.Test.YtafpbnjfmieamaaProg
/-
  Contracts of the model's AroundOf, CornersOf, AnglesOf, StratumOf, GenusOf, IsRegularCorner.
-/
namespace Go.Proofs.Ytafpbnjfmieamaa.gl
open Go.ChangeShapes Go.WideShapes Go.ChangeAt Go.RowKit
open Go.Proofs.Ytafpbnjfmieamaa.mem Go.Proofs.Ytafpbnjfmieamaa.ints Go.Proofs.Ytafpbnjfmieamaa.arr Go.Proofs.Ytafpbnjfmieamaa.pm Go.Proofs.Ytafpbnjfmieamaa.permOk Go.Proofs.Ytafpbnjfmieamaa.permOf Go.Proofs.Ytafpbnjfmieamaa.inv Go.Proofs.Ytafpbnjfmieamaa.fns Go.Proofs.Ytafpbnjfmieamaa.sf Go.Proofs.Ytafpbnjfmieamaa.mat
set_option linter.unusedVariables false
set_option maxRecDepth 100000

theorem gives_eq {r r' : List Int} {w w' : World} {e : Ending} (h : r' = r) (g : Gives r w e w') : Gives r' w e w' := h ▸ g
theorem mgives_eq {r r' : List (List Int)} {w w' : World} {e : Ending} (h : r' = r) (g : MGives r w e w') : MGives r' w e w' := h ▸ g

set_option maxHeartbeats 1000000 in
theorem co_spec0 (v : Value) (r u : List Int) (hi : Nat) (w : World) (hx : Srd w hi v r u) (hn : r.length ≤ 1048576) (hm : u.length ≤ 1048576) :
    Calls Try.prog 105 #[v] w (MGives (corF r u) w) := by
  have HX := Lib.hid hx; clear hx
  obtain ⟨P, n, c, Q, m, d, rfl, q1, q2, e1, e2, ht, HR⟩ := HX.out.open
  go_enter Try.func105, Try.ntmps105
  go_wp2_with fail
  refine (ok_spec _ r u hi _ (HX.out.keep ((Below.refl hi w).alloc ht _) (Nat.le_refl _)) hn hm).mono ?_
  rintro e w1 ⟨rfl, b1⟩
  have A0 := Lib.hid ((Arr.new w [.slice P n c, .slice Q m d] 33 rfl).keep b1 (by simp))
  have c0 := A0.out.cell (k := 0) rfl
  have c1 := A0.out.cell (k := 1) rfl
  have B1 := Lib.hid (below1 _ _ b1); clear b1
  have X1 : Hid (Srd w1 hi (.agg #[.slice P n c, .slice Q m d]) r u) := Lib.hid (HX.out.keep (B1.out.mono ht) (Nat.le_refl _))
  cases hq : transB r u
  · have HF := Lib.hid (corF_no hq); clear hq
    go_wp2_with fail
    go_ret
    exact mgives_eq HF.out (mgives_nil B1.out)
  · have HF := Lib.hid (corF_cyc hq)
    have HS := Lib.hid (transB_iff.1 hq); clear hq
    go_wp2_with fail
    refine (around_spec _ r u hi _ X1.out HS.out).mono ?_
    rintro e w2 hg
    obtain ⟨v2, rfl, o2, b2⟩ := gives_later B1.out hg
    obtain ⟨P2, c2, rfl⟩ := own_form o2
    have R2 := Lib.hid (Row.of_own o2); have B2 := Lib.hid b2
    have hcap := (own_cap o2).2
    have hl : (comm r u).length ≤ 1048576 := by have := HS.out.comm.2; omega
    clear o2 b2 hg
    go_wp2_with fail
    refine (cyc_spec P2 _ c2 (comm r u) _ _ R2.out.rd hl hcap).mono ?_
    rintro e w3 hg
    obtain ⟨P3, c3, rfl, o3, b3⟩ := mgives_eq HF.out (mgives_later B2.out hg)
    have O3 := Lib.hid o3; have B3 := Lib.hid b3; clear o3 b3 hg
    go_wp2_with fail
    go_ret
    exact ⟨P3, c3, rfl, O3.out, B3.out⟩
theorem co_spec (v : Value) (r u : List Int) (hi : Nat) (w : World) (hx : Srd w hi v r u) (hn : r.length ≤ 1048576) (hm : u.length ≤ 1048576) :
    Calls Try.prog 105 #[v] w fun e w' => ∃ A c, e = .returned (.slice A (corF r u).length c) ∧ Mat w' w.heap.size w'.heap.size A (corF r u).length (corF r u) ∧ Below w.heap.size w w' :=
  co_spec0 v r u hi w hx hn hm

set_option maxHeartbeats 1000000 in
theorem an_spec0 (v : Value) (r u : List Int) (hi : Nat) (w : World) (hx : Srd w hi v r u) (hn : r.length ≤ 1048576) (hm : u.length ≤ 1048576) :
    Calls Try.prog 94 #[v] w (Gives (angF r u) w) := by
  have HX := Lib.hid hx; clear hx
  obtain ⟨P, n, c, Q, m, d, rfl, q1, q2, e1, e2, ht, HR⟩ := HX.out.open
  go_enter Try.func94, Try.ntmps94
  go_wp2_with fail
  refine (co_spec _ r u hi _ (HX.out.keep ((Below.refl hi w).alloc ht _) (Nat.le_refl _)) hn hm).mono ?_
  rintro e w1 ⟨P1, c1, rfl, o1, b1⟩
  have B1 := Lib.hid (below1 _ _ b1); have O1 := Lib.hid o1; clear b1 o1
  have hs := corF_small r u
  have HF : Hid (angF r u = sortD (lensF (corF r u))) := Lib.hid rfl
  go_wp2_with fail
  refine (lens_spec P1 _ c1 (corF r u) _ _ _ O1.out (by omega) (by have := hs.2; unfold tot; omega)).mono ?_
  rintro e w2 hg
  obtain ⟨v2, rfl, o2, b2⟩ := gives_eq HF.out (gives_later B1.out hg)
  have O2 := Lib.hid o2; have B2 := Lib.hid b2; clear o2 b2 hg
  go_wp2_with fail
  go_ret
  exact ⟨v2, rfl, O2.out, B2.out⟩
theorem an_spec (v : Value) (r u : List Int) (hi : Nat) (w : World) (hx : Srd w hi v r u) (hn : r.length ≤ 1048576) (hm : u.length ≤ 1048576) :
    Calls Try.prog 94 #[v] w fun e w' => ∃ v, e = .returned v ∧ w'.ownsRow w.heap.size 3 1 v (angF r u).length (V (angF r u)) ∧ Below w.heap.size w w' :=
  an_spec0 v r u hi w hx hn hm

theorem angF_range (r u : List Int) : ∀ x ∈ angF r u, 0 ≤ x ∧ x ≤ 24 := by
  intro x hx
  have h := (sortD_perm _).mem_iff.1 hx
  obtain ⟨c, hc, rfl⟩ := List.mem_map.1 h
  have h2 := (corF_small r u).2
  have h3 : c.length ≤ ((corF r u).map List.length).sum := by
    obtain ⟨k, hk⟩ := List.getElem?_of_mem hc
    exact tot_row hk
  omega
/-- The stratum that grows: from the block behind the box on. -/
structure Sg (w w1 wr : World) (v : Value) (l : List Int) : Prop where
  own : wr.ownsRow (w.heap.size + 1) 3 1 v l.length (V l)
  out : Out (w.heap.size + 1) (w.heap.size + 2) w1 wr
  at_ : ∀ b, v.ownBlock = some b → b = w.heap.size + 1 ∨ w1.heap.size ≤ b
theorem Sg.next {w w1 wr w' : World} {v v' : Value} {l : List Int} {z : Int} {n : Nat} (h : Sg w w1 wr v l) (ho : w'.ownsRow (w.heap.size + 1) 3 1 v' (n + 1) (V l ++ [.int .i64 z])) (hn : n = l.length)
    (hg : wr.grownBy w' v.ownBlock) (hb : v'.ownBlock = v.ownBlock ∨ ∃ k, v'.ownBlock = some k ∧ wr.heap.size + 1 ≤ k) : Sg w w1 w' v' (l ++ [z]) := by
  subst hn
  have e : V (l ++ [z]) = V l ++ [.int .i64 z] := by simp [V]
  have hs := h.out.size
  refine ⟨by rw [e]; simpa using ho, ⟨hg.os.trans h.out.os, hg.tape.trans h.out.tape, hg.output.trans h.out.output, Nat.le_trans hs hg.size, fun k hk hne => ?_⟩, fun b hq => ?_⟩
  · refine (hg.block k (by omega) (fun e => ?_)).trans (h.out.block k hk hne)
    have := h.at_ k e.symm
    omega
  · rcases hb with q | ⟨k, q, hk⟩
    · exact h.at_ b (by rw [← q]; exact hq)
    · rw [q] at hq; injection hq with hq; omega

set_option maxHeartbeats 2000000 in
theorem st_spec0 (v : Value) (r u : List Int) (hi : Nat) (w : World) (hx : Srd w hi v r u) (hn : r.length ≤ 1048576) (hm : u.length ≤ 1048576) :
    Calls Try.prog 74 #[v] w (Gives (strF r u) w) := by
  have HX := Lib.hid hx; clear hx
  obtain ⟨P, n, c, Q, m, d, rfl, q1, q2, e1, e2, ht, HR⟩ := HX.out.open
  obtain ⟨i0, hi0, hz0, hz1, hz2⟩ := info_parts infoI
  clear q1 q2 HR e1 e2
  go_enter Try.func74, Try.ntmps74
  go_wp2_with fail
  refine (an_spec _ r u hi _ (HX.out.keep (((Below.refl hi w).alloc ht _).alloc (by simp; omega) _) (Nat.le_refl _)) hn hm).mono ?_
  rintro e w1 ⟨v1, rfl, o1, b1⟩
  obtain ⟨P1, c1, rfl⟩ := own_form o1
  have RA : Hid (Row w1 (w.heap.size + 2) w1.heap.size P1 (angF r u).length (V (angF r u))) := Lib.hid (by have := Row.of_own o1; simpa using this)
  have hs1 : w.heap.size + 2 ≤ w1.heap.size := by have := b1.size; simpa using this
  have hblk : w1.heap[w.heap.size + 1]? = some (.cells #[] 3 (0, 0)) := by
    rw [b1.block _ (by simp)]
    have := heap_alloc_last (w.alloc (.cells #[.slice P n c, .slice Q m d] 33)) (.cells #[] 3)
    simpa using this
  have S0 : Hid (Sg w w1 w1 (.slice (some ⟨w.heap.size + 1, 0, none⟩) 0 0) []) := Lib.hid ⟨⟨rfl, .inr ⟨w.heap.size + 1, 0, #[], rfl, Nat.le_refl _, hblk, Nat.le_refl _, by simp, rfl, rfl⟩⟩, Out.refl _ _ _, fun b e => by simp [Value.ownBlock] at e; omega⟩
  have BW : Hid (Below w.heap.size w w1) := Lib.hid ((((Below.refl _ _).alloc (Nat.le_refl _) _).alloc (by simp) _).trans (b1.mono (by simp <;> omega)))
  clear o1 b1 hblk
  have HF : Hid (strF r u = strL (angF r u)) := Lib.hid rfl
  have HR := Lib.hid (angF_range r u)
  have hl := angF_len r u
  generalize angF r u = l at *
  go_wp2
  go_loopw [3, 10] (fun v i wr => ∃ k : Nat, k ≤ l.length ∧ i = .int .i64 k ∧ Sg w w1 wr v (strL (l.take k))) (fun _ i _ => l.length - (intOf i).toNat)
  case atStart => exact ⟨0, Nat.zero_le _, rfl, by simpa [strL] using S0.out⟩
  case round =>
    obtain ⟨k, hk, rfl, hm⟩ := hrel
    obtain ⟨C, cc, rfl⟩ := own_form hm.own
    have HM := Lib.hid hm; clear hm
    have hsz : w1.heap.size ≤ wr.heap.size := HM.out.out.size
    by_cases hlt : k < l.length
    · obtain ⟨g, off, uu, rfl, hg1, hg2, hxu, hcx, hfx⟩ := (Row.out RA.out HM.out.out (.inr (Nat.le_refl _))).at_ hlt
      obtain ⟨x, hxs, rfl⟩ := V_at hxu
      obtain ⟨hx0, hx24⟩ := HR.out x (List.mem_of_getElem? hxs)
      have NX : Hid (strL (l.take (k + 1)) = if 1 < x then strL (l.take k) ++ [x - 1] else strL (l.take k)) := Lib.hid (by rw [List.take_add_one, hxs]; exact strL_snoc _ _)
      have HLN : (strL (l.take k)).length ≤ l.length := by have := strL_len (l.take k); simp at this; omega
      clear hxu hxs hfx
      generalize strL (l.take k) = lk at *
      by_cases hx1 : 1 < x
      · rw [if_pos hx1] at NX
        go_wp2_with (at_builtin; refine wpList_append_one2 wr _ _ rfl _ _ 23 rfl (w.heap.size + 1) 3 i0 _ 8 1 Try.underlying23 hi0 hz0 hz1 rfl hz2 rfl _ _ _ rfl HM.out.own rfl rfl ?c4 (by decide) (by omega) ?_)
        case c4 => omega
        intro v' w' ho hg hb
        have HN : Hid (Sg w w1 w' v' (strL (l.take (k + 1)))) := Lib.hid (by rw [NX.out]; exact HM.out.next ho rfl hg hb)
        clear ho hg hb HM hcx
        go_wp2
        go_roundw
        case rel => exact ⟨k + 1, by omega, by go_num, HN.out⟩
        case measure => simp [intOf]; omega
      · rw [if_neg hx1] at NX
        have hd : decide (1 < x) = false := by simp; omega
        clear hx1
        go_wp2
        go_roundw
        case rel => exact ⟨k + 1, by omega, by go_num, by rw [NX.out]; exact HM.out⟩
        case measure => simp [intOf]; omega
    · obtain rfl : k = l.length := by omega
      have e : l.take l.length = l := List.take_of_length_le (Nat.le_refl _)
      rw [e] at HM ⊢
      go_wp2
      go_ret
      exact gives_eq HF.out ⟨_, rfl, own_base HM.out.own (by omega), BW.out.trans (HM.out.out.below (by omega) (by have := BW.out.size; omega))⟩

theorem st_spec (v : Value) (r u : List Int) (hi : Nat) (w : World) (hx : Srd w hi v r u) (hn : r.length ≤ 1048576) (hm : u.length ≤ 1048576) :
    Calls Try.prog 74 #[v] w fun e w' => ∃ v, e = .returned v ∧ w'.ownsRow w.heap.size 3 1 v (strF r u).length (V (strF r u)) ∧ Below w.heap.size w w' :=
  st_spec0 v r u hi w hx hn hm

end Go.Proofs.Ytafpbnjfmieamaa.gl

/-
  SurfacesIn, CountTori of the model.
-/
namespace Go.Proofs.Ytafpbnjfmieamaa.lst
open Go.ChangeShapes Go.WideShapes Go.ChangeAt Go.RowKit
open Go.Proofs.Ytafpbnjfmieamaa.mem Go.Proofs.Ytafpbnjfmieamaa.ints Go.Proofs.Ytafpbnjfmieamaa.arr Go.Proofs.Ytafpbnjfmieamaa.pm Go.Proofs.Ytafpbnjfmieamaa.sf Go.Proofs.Ytafpbnjfmieamaa.gl Go.Proofs.Ytafpbnjfmieamaa.orb
set_option linter.unusedVariables false
set_option maxRecDepth 100000

theorem sfn24 {n : Nat} {s : Sur} (h : Sf n s.1 s.2) : n ≤ 24 := by have := h.r.len; rw [h.lr] at this; exact this
def inS (st : List Int) (z : Item) : Bool := decide (strF (sOf z).1 (sOf z).2 = st)
theorem filter_bs (p : Item → Bool) : ∀ Z : List Item, (bsOf (Z.filter p)).Sublist (bsOf Z)
  | [] => List.Sublist.refl _
  | z :: t => by
    have ih := filter_bs p t
    unfold bsOf at ih ⊢
    rw [List.filter_cons, List.flatMap_cons]
    split
    · rw [List.flatMap_cons]
      exact (List.Sublist.refl _).append ih
    · exact ih.trans (List.sublist_append_right _ _)
theorem Pk.filter {w : World} {lo hi : Nat} {ex : Nat → Prop} {Z : List Item} (h : Pk w lo hi ex Z) (p : Item → Bool) : Pk w lo hi ex (Z.filter p) :=
  ⟨h.top, fun z hz => h.each z (List.mem_filter.1 hz).1, h.nd.sublist (filter_bs p Z)⟩
/-- The list that is picked out of another: its headers are copies. -/
structure Si (w w2 wr : World) (vo : Value) (Y : List Item) : Prop where
  own : wr.ownsRow w.heap.size 33 2 vo Y.length (hsOf Y)
  vb : ∀ b, vo.ownBlock = some b → b = w.heap.size ∨ w2.heap.size ≤ b
  kp : ∀ b, b < w2.heap.size → b ≠ w.heap.size → wr.heap[b]? = w2.heap[b]?
  os : wr.os = w2.os
  tape : wr.tape = w2.tape
  output : wr.output = w2.output
  size : w2.heap.size ≤ wr.heap.size
theorem Si.keep {w w2 wr w' : World} {vo : Value} {Y : List Item} (h : Si w w2 wr vo Y) (hb : Below wr.heap.size wr w') : Si w w2 w' vo Y :=
  ⟨own_block_keep h.own (fun b e => hb.block b (h.own.lt b e).2), h.vb, fun b q1 q2 => (hb.block b (Nat.lt_of_lt_of_le q1 h.size)).trans (h.kp b q1 q2), hb.os.trans h.os, hb.tape.trans h.tape, hb.output.trans h.output, Nat.le_trans h.size hb.size⟩
theorem Si.push {w w2 wr w1 w6 : World} {vo : Value} {Y : List Item} {z : Item} {o : Obj} {g cap : Nat} (h : Si w w2 wr vo Y) (h0 : w.heap.size ≤ w2.heap.size) (hb : Below wr.heap.size wr w1) (hw : w1.alloc o = w1.alloc o)
    (ho : w6.ownsRow w.heap.size 33 2 (.slice (some ⟨g, 0, none⟩) (Y.length + 1) cap) (Y.length + 1) (hsOf Y ++ [z.2.1.1, z.2.1.2])) (hg : (w1.alloc o).grownBy w6 vo.ownBlock) (hbg : vo.ownBlock = some g ∨ g = w1.heap.size + 1) :
    Si w w2 w6 (.slice (some ⟨g, 0, none⟩) (Y.length + 1) cap) (Y ++ [z]) := by
  have s1 := hb.size; have s2 := h.size
  have bA : Below w1.heap.size w1 (w1.alloc o) := (Below.refl _ _).alloc (Nat.le_refl _) _
  have sA := bA.size; have s6 := hg.size
  have kk := (h.keep hb).keep bA
  refine ⟨?_, fun b e => ?_, fun b q1 q2 => (hg.block b (by omega) (fun e => ?_)).trans (kk.kp b q1 q2), hg.os.trans kk.os, hg.tape.trans kk.tape, hg.output.trans kk.output, by omega⟩
  · rw [hs_app, List.length_append, List.length_singleton]
    exact ho
  · have e2 : g = b := by simpa [Value.ownBlock] using e
    rcases hbg with q | q
    · exact h.vb b (by rw [q, e2])
    · exact .inr (by omega)
  · rcases h.vb b e.symm with q | q <;> omega
set_option maxHeartbeats 4000000 in
theorem si_spec (a : Int) (A : Option Addr) (m c : Nat) (xs : List Int) (h1 : Nat) (w : World) (hx : Rd w h1 A m (V xs)) (hm : m ≤ 1048576) : Calls Try.prog 45 #[.int .i64 a, .slice A m c] w (SWPost a (siF a xs) w) := by
  obtain ⟨i0, hi0, hz0, hz1, hz2⟩ := info_parts infoS10
  have HX := Lib.hid hx; clear hx
  have ST : Hid (∃ W, W = w.alloc (.cells #[] 33) ∧ Below w.heap.size w W ∧ W.heap.size = w.heap.size + 1 ∧ W.heap[w.heap.size]? = some (.cells #[] 33 (0, 0))) := Lib.hid ⟨_, rfl, (Below.refl _ _).alloc (Nat.le_refl _) _, by simp, heap_alloc_last w _⟩
  go_enter Try.func45, Try.ntmps45
  go_wp2_with fail
  obtain ⟨w1, eW, b1, s1, hh⟩ := ST.out
  rw [← eW]
  clear eW ST
  refine (sw_spec a w1).mono ?_
  rintro e w2 ⟨v2, rfl, sx⟩
  obtain ⟨Z, ez, oz, pz⟩ := sx.ex
  obtain ⟨A2, c2, rfl⟩ := mem.own_form oz
  have b2 := sx.bel
  have s2 := b2.size
  have SF : Hid (∀ z ∈ Z, Sf a.toNat (sOf z).1 (sOf z).2) := Lib.hid (fun z hz => sx.sf _ (by rw [← ez]; exact List.mem_map_of_mem hz))
  have EF : Hid ((Z.filter (inS xs)).map sOf = siF a xs) := Lib.hid (by
    unfold siF
    rw [← ez, List.filter_map]
    rfl)
  have NL : Z.length ≤ 1000 := by
    have e1 : Z.length = (swF a).length := by rw [← ez, List.length_map]
    rw [e1]
    unfold swF
    split
    · rename_i h
      have := (sw_ok (n := a.toNat) (by omega) (by omega)).num
      omega
    · simp
  have PZ := Lib.hid pz; have OZ := Lib.hid oz; have B2 := Lib.hid (b1.trans (b2.mono (by omega)))
  have S0 : Hid (Si w w2 w2 (.slice (some ⟨w.heap.size, 0, none⟩) 0 0) ((Z.take 0).filter (inS xs))) := Lib.hid ⟨⟨rfl, .inr ⟨w.heap.size, 0, #[], rfl, Nat.le_refl _, (b2.block _ (by omega)).trans hh, Nat.le_refl _, by unfold maxLen; omega, rfl, rfl⟩⟩, fun b e => .inl (by simpa [Value.ownBlock] using e.symm), fun b _ _ => rfl, rfl, rfl, rfl, Nat.le_refl _⟩
  clear ez oz pz b1 b2 hh sx
  go_wp2_with fail
  go_loopw [5, 12] (fun vo i wr => ∃ k : Nat, k ≤ Z.length ∧ i = .int .i64 k ∧ Si w w2 wr vo ((Z.take k).filter (inS xs))) (fun _ i _ => Z.length - (intOf i).toNat)
  case atStart => exact ⟨0, Nat.zero_le _, rfl, S0.out⟩
  case round =>
    obtain ⟨k, hk, rfl, si⟩ := hrel
    have SI := Lib.hid si; clear si S0
    by_cases hlt : k < Z.length
    · obtain ⟨z, hz⟩ : ∃ z, Z[k]? = some z := ⟨_, List.getElem?_eq_getElem hlt⟩
      obtain ⟨g, off, rfl, hg, q0, q1⟩ := own_at OZ.out rfl hz
      have hgw : g ≠ w.heap.size := by have := (OZ.out.lt g rfl).1; omega
      have PR : Hid (Pk wr w1.heap.size w2.heap.size (fun b => (Value.slice (some ⟨g, off, none⟩) Z.length c2).ownBlock = some b) Z) := Lib.hid (PZ.out.keep SI.out.size (fun b l h _ => SI.out.kp b h (by omega)))
      obtain ⟨P, c', Q, d', ep, srd⟩ := PR.out.srd (List.mem_of_getElem? hz)
      have SS := Lib.hid (SF.out z (List.mem_of_getElem? hz))
      have ET : Hid ((Z.take (k + 1)).filter (inS xs) = (Z.take k).filter (inS xs) ++ (if inS xs z then [z] else [])) := Lib.hid (by
        rw [List.take_add_one, hz, List.filter_append]
        simp [List.filter_cons])
      have hc0 : wr.cell? ⟨g, off + k * 2, none⟩ = some (.slice P (sOf z).1.length c') := by
        rw [World.cell?_of_block (w := w2) (a := ⟨g, off + k * 2, none⟩) (SI.out.kp g hg hgw), q0, ep]
      have hc1 : wr.cell? ⟨g, off + k * 2 + 1, none⟩ = some (.slice Q (sOf z).2.length d') := by
        rw [World.cell?_of_block (w := w2) (a := ⟨g, off + k * 2 + 1, none⟩) (SI.out.kp g hg hgw), q1, ep]
      have YL : ((Z.take k).filter (inS xs)).length ≤ k := by
        have := List.length_filter_le (inS xs) (Z.take k)
        rw [List.length_take] at this
        omega
      have EP := Lib.hid ep; have SRD := Lib.hid srd
      generalize (Z.take k).filter (inS xs) = Y at *
      have n24 := sfn24 SS.out
      have r24 : (sOf z).1.length ≤ 24 := by rw [SS.out.lr]; exact n24
      have u24 : (sOf z).2.length ≤ 24 := by rw [SS.out.lu]; exact n24
      have IN : Hid (inS xs z = eqi (strF (sOf z).1 (sOf z).2) xs) := Lib.hid rfl
      generalize (sOf z).1 = r at *; generalize (sOf z).2 = u at *
      clear ep srd q0 q1 hz PR SS
      have ST1 : Hid (∃ W, W = wr.alloc (.cells #[.slice P r.length c', .slice Q u.length d'] 33) ∧ Below wr.heap.size wr W ∧ Arr W wr.heap.size [.slice P r.length c', .slice Q u.length d'] 33) := Lib.hid ⟨_, rfl, (Below.refl _ _).alloc (Nat.le_refl _) _, Arr.new wr _ _ rfl⟩
      go_wp2_with fail
      obtain ⟨w3, eW, b3, ar⟩ := ST1.out
      rw [← eW]
      have AR := Lib.hid ar; have SI3 := Lib.hid (SI.out.keep b3); have SR3 := Lib.hid (SRD.out.keep (b3.mono SI.out.size) (Nat.le_refl _))
      have HX3 := Lib.hid (HX.out.keep (((B2.out.trans ⟨SI.out.os, SI.out.tape, SI.out.output, SI.out.size, fun b hb => SI.out.kp b (by omega) (by omega)⟩).trans (b3.mono (by have := SI.out.size; omega))).mono HX.out.2.1) (Nat.le_refl _))
      have BW3 : Hid (Below wr.heap.size wr w3) := Lib.hid b3
      have s3 := b3.size
      have swr := SI.out.size
      clear eW b3 ar ST1 SRD SI hc0 hc1
      have c30 := AR.out.cell (k := 0) rfl; have c31 := AR.out.cell (k := 1) rfl
      have hbx := AR.out.lt
      generalize hwrs : wr.heap.size = bx at *
      refine (st_spec _ r u _ _ SR3.out (by omega) (by omega)).mono ?_
      rintro e w4 ⟨v4, rfl, o4, b4⟩
      obtain ⟨A4, c4, rfl⟩ := mem.own_form o4
      have R4 := Lib.hid (Row.of_own o4).rd
      have AR4 := Lib.hid (AR.out.keep b4 AR.out.lt); have SI4 := Lib.hid (SI3.out.keep b4)
      have HX4 := Lib.hid (HX3.out.keep (b4.mono (by have := HX.out.2.1; omega)) (Nat.le_refl _))
      have BW4 : Hid (Below bx wr w4) := Lib.hid (BW3.out.trans (b4.mono (by omega)))
      have s4 := b4.size
      have hsl : (strF r u).length ≤ 1048576 := strF_len r u
      clear o4 b4 AR SI3 HX3 BW3 c30 c31
      go_wp2_with fail
      refine (same.spec_b A4 (strF r u).length c4 (strF r u) A m c xs _ _ _ R4.out HX4.out hsl hm).mono ?_
      rintro e w5 ⟨rfl, b5⟩
      rw [← IN.out]
      have AR5 := Lib.hid (AR4.out.keep b5 AR4.out.lt); have SI5 := Lib.hid (SI4.out.keep b5); have BW5 := Lib.hid (BW4.out.trans (b5.mono (by omega)))
      have s5 := b5.size
      clear b5 AR4 SI4 HX4 BW4 R4
      have c50 := AR5.out.cell (k := 0) rfl; have c51 := AR5.out.cell (k := 1) rfl
      cases hin : inS xs z
      · rw [hin] at ET
        go_wp2_with fail
        go_roundw
        case rel => exact ⟨k + 1, by omega, by go_num, by rw [ET.out]; simpa using SI5.out⟩
        case measure => simp [intOf]; omega
      · rw [hin] at ET
        have OA : Hid ((w5.alloc (.cells #[.slice P r.length c', .slice Q u.length d'] 33)).ownsRow w.heap.size 33 2 u5 Y.length (hsOf Y)) := Lib.hid (SI5.out.own.alloc _)
        have HN : Hid (∀ (j : Nat) q, [Value.slice P r.length c', .slice Q u.length d'][j]? = some q → (w5.alloc (.cells #[.slice P r.length c', .slice Q u.length d'] 33)).cell? ((⟨w5.heap.size, 0, none⟩ : Addr).add j) = some q) := Lib.hid (World.news_of_block (Arr.new w5 _ _ rfl))
        have h63 : Y.length + 1 ≤ maxLen := by unfold maxLen; omega
        have hby : (Y.length + 1) * 48 ≤ 140737488355328 := by omega
        have hba : w.heap.size ≤ (w5.alloc (.cells #[.slice P r.length c', .slice Q u.length d'] 33)).heap.size := by simp; omega
        have V1 : Hid (∀ q ∈ [Value.slice P r.length c', .slice Q u.length d'], q.oneCell' = true) := Lib.hid (by
          intro q hq
          simp at hq
          rcases hq with rfl | rfl <;> rfl)
        go_wp2_with (at_builtin; refine wpList_append_lies (w5.alloc (.cells #[.slice P r.length c', .slice Q u.length d'] 33)) rfl _ _ 25 rfl w.heap.size 33 i0 _ 2 48 Try.underlying25 hi0 hz0 hz1 hz2 rfl (by decide) u5 Y.length (hsOf Y) rfl OA.out ⟨w5.heap.size, 0, none⟩ 1 1 [.slice P r.length c', .slice Q u.length d'] rfl rfl HN.out V1.out (by decide) h63 hby hba (w5.heap.size + 1) (by simp) ?_)
        intro g6 cap6 w6 ho6 hg6 hb6 hl6
        have S6 : Hid (Si w w2 w6 (.slice (some ⟨g6, 0, none⟩) (Y.length + 1) cap6) (Y ++ [z])) := Lib.hid (SI5.out.push (by omega) (Below.refl _ _) rfl (by rw [EP.out]; exact ho6) hg6 hb6)
        clear ho6 hg6 hb6 hl6 OA HN SI5
        go_wp2_with fail
        go_roundw
        case rel => exact ⟨k + 1, by omega, by go_num, by rw [ET.out]; exact S6.out⟩
        case measure => simp [intOf]; omega
    · obtain rfl : k = Z.length := by omega
      have SE := SI.out
      rw [List.take_of_length_le (Nat.le_refl _)] at SE
      have PF : Hid (SWPost a (siF a xs) w (.returned u5) wr) := Lib.hid (by
        have pf := ((PZ.out.filter (inS xs)).keep SE.size (fun b l h _ => SE.kp b h (by omega)))
        refine ⟨u5, rfl, ⟨Z.filter (inS xs), EF.out, SE.own, pf.to (by omega) SE.size (Nat.le_refl _) (fun b l h _ e => ?_)⟩, fun y hy => ?_, B2.out.trans ⟨SE.os, SE.tape, SE.output, SE.size, fun b hb => SE.kp b (by omega) (by omega)⟩⟩
        · rcases SE.vb b e with q | q <;> omega
        · rw [← EF.out] at hy
          obtain ⟨z, hz, rfl⟩ := List.mem_map.1 hy
          exact SF.out z (List.mem_filter.1 hz).1)
      clear SE SI
      go_wp2_with fail
      go_ret
      exact PF.out
end Go.Proofs.Ytafpbnjfmieamaa.lst

/-
  The tori of the list: the empty stratum, genus 1. Plain mathematics.
-/
namespace Go.Proofs.Ytafpbnjfmieamaa.lst
open Go.Proofs.Ytafpbnjfmieamaa.pm Go.Proofs.Ytafpbnjfmieamaa.orb
set_option linter.unusedVariables false
set_option maxRecDepth 100000
set_option maxRecDepth 100000 in
theorem gen_kernel : ∀ n : Fin 5, ((swL n.val).all fun x => decide (decide (genF x.1 x.2 = 1) = decide (strF x.1 x.2 = []))) = true := by decide +kernel
end Go.Proofs.Ytafpbnjfmieamaa.lst

/-
  A loop over an iterator whose values are new slices of ints: the iterator's word, the loop's law; laws of the plain walk in a round.
-/
namespace Go.Proofs.Ytafpbnjfmieamaa.rf
open Go.ChangeShapes Go.WideShapes Go.ChangeAt Go.RowKit
open Go.Proofs.Ytafpbnjfmieamaa.mem Go.Proofs.Ytafpbnjfmieamaa.ints Go.Proofs.Ytafpbnjfmieamaa.arr
set_option linter.unusedVariables false
set_option maxRecDepth 100000

theorem callsIn_any {P : Program} {f : FuncId} {args : Array Value} {w : World} {R : Ending → World → Prop} (n l : Nat) (h : Calls P f args w R) : CallsIn (Fence.wide.inRound l) n P f args w R := CallsIn.inRound l (callsIn_wide.2 h)
theorem rowsIn_any {P : Program} {row : String} {args : Array Value} {w : World} {R : Value → World → Prop} (n : Nat) (h : Rows P row args w R) : RowsIn Fence.wide n P row args w R :=
  fun c cs _ => let ⟨v, w', r, s⟩ := h c cs; ⟨v, w', r, stepsIn_wide.2 s⟩
/-- At the fence that asks nothing an operation that is no defer is walked in a round as everywhere. -/
theorem wpIn_of_wp {P : Program} {o : Oper} {a : Act} {w : World} {next : Act → World → Prop} {Q : Exit → Act → World → Prop} (n l : Nat) (hd : ∀ c, o.op ≠ .defer c) (h : o.wp P a w next Q) : o.wpIn (Fence.wide.inRound l) n P a w next Q := by
  unfold Oper.wpIn
  refine ⟨fun _ _ => trivial, ?_⟩
  have e : o.semAt (Fence.wide.inRound l).round a.eval = execOp a.eval o := Oper.semAt_some l _ _ hd
  rw [e]
  unfold Oper.wp at h
  generalize (execOp a.eval o).run P w = r at *
  cases r with
  | halt hh w' => cases hh <;> first | exact h | exact h.elim
  | ok nx w' =>
    cases nx with
    | value v => exact h
    | skip => exact h
    | defer d => exact h
    | enter f args => exact ⟨(fun q => by cases q), (callsIn_any _ l h).mono fun e w'' q => by cases e <;> exact q⟩
    | row row args => exact ⟨(fun q => by cases q), rowsIn_any _ h⟩
    | _ => exact h.elim
theorem wpIn_of_wp0 {P : Program} {o : Oper} {a : Act} {w : World} {next : Act → World → Prop} {Q : Exit → Act → World → Prop} (n : Nat) (h : o.wp P a w next Q) : o.wpIn Fence.wide n P a w next Q := by
  unfold Oper.wpIn
  refine ⟨fun _ _ => trivial, ?_⟩
  have e : o.semAt Fence.wide.round a.eval = execOp a.eval o := by simp [Oper.semAt]
  rw [e]
  unfold Oper.wp at h
  generalize (execOp a.eval o).run P w = r at *
  cases r with
  | halt hh w' => cases hh <;> first | exact h | exact h.elim
  | ok nx w' =>
    cases nx with
    | value v => exact h
    | skip => exact h
    | defer d => exact h
    | enter f args => exact ⟨(fun q => by cases q), (callsIn_wide.2 h).mono fun e w'' q => by cases e <;> exact q⟩
    | row row args => exact ⟨(fun q => by cases q), rowsIn_any _ h⟩
    | _ => exact h.elim
section
variable {P : Program} {ops : Array Oper} {rest : List Oper} {o : Oper} {a : Act} {w : World} {Q : Exit → Act → World → Prop} {n : Nat}
theorem in_load_row (hgd : o.guard = none) (ty : TypeId) (x : Operand) (ho : o.op = .load ty x)
    (g : Nat) (hx : a.eval x = .pointer (some ⟨g, 0, none⟩)) (t : TypeId) (cs : Array Value) (fr : Nat × Nat) (d : TypeDesc) (hg : w.heap[g]? = some (.cells cs t fr))
    (hu : P.underlying ty = some d) (hd : (match d with | .struct _ | .array _ _ => true | _ => false) = true) (hi : (P.info? ty).map (·.size) = some cs.size)
    (h : wpListIn Fence.wide n P ops Q rest (a.put o.dst (.agg cs)) w) : wpListIn Fence.wide n P ops Q (o :: rest) a w :=
  wpListIn_plain hgd fun _ hK => wpIn_of_wp0 n (wp_load_row ty x ho g hx t cs fr d hg hu hd hi (hK _ _ h))
theorem in_store_row (hgd : o.guard = none) (ty : TypeId) (x y : Operand) (ho : o.op = .store ty x y)
    (g : Nat) (cells : Array Value) (hx : a.eval x = .pointer (some ⟨g, 0, none⟩)) (hy : a.eval y = .agg cells)
    (t : TypeId) (old : Array Value) (hg : w.heap[g]? = some (.cells old t (0, 0))) (hi : (P.info? ty).map (·.size) = some cells.size)
    (hold : old.size = cells.size) (h1 : cells.all (·.oneCell') = true)
    (h : wpListIn Fence.wide n P ops Q rest (a.put o.dst undef) (w.setRow g cells)) : wpListIn Fence.wide n P ops Q (o :: rest) a w :=
  wpListIn_plain hgd fun _ hK => wpIn_of_wp0 n (wp_store_row ty x y ho g cells hx hy t old hg hi hold h1 (hK _ _ h))
end

/-- A row of ints and the slice value that reads as it. -/
abbrev Rw := List Int × Value
/-- The blocks from D on and below D1, and block bg, are as they were. -/
structure Kept (D D1 bg : Nat) (W W' : World) : Prop where
  size : W.heap.size ≤ W'.heap.size
  box : W'.heap[bg]? = W.heap[bg]?
  mid : ∀ k, D ≤ k → k < D1 → W'.heap[k]? = W.heap[k]?
theorem Kept.mono {D D' D1 bg : Nat} {W W' : World} (h : Kept D D1 bg W W') (hd : D ≤ D') : Kept D' D1 bg W W' := ⟨h.size, h.box, fun k a b => h.mid k (by omega) b⟩
def NewRow (W0 W1 : World) (x : Rw) : Prop := W1.ownsRow W0.heap.size 3 1 x.2 x.1.length (V x.1)
theorem NewRow.keep {W0 W1 W2 : World} {x : Rw} (h : NewRow W0 W1 x) (hk : ∀ k, W0.heap.size ≤ k → k < W1.heap.size → W2.heap[k]? = W1.heap[k]?) : NewRow W0 W2 x := by
  refine ⟨h.1, ?_⟩
  rcases h.2 with h0 | ⟨g, cap, cur, q1, q2, q3, q4⟩
  · exact .inl h0
  · exact .inr ⟨g, cap, cur, q1, q2, (hk g q2 (Array.getElem?_eq_some_iff.1 q3).1).trans q3, q4⟩

/-- The iterator's word: it hands the rows of L to yield, one after another, each new; it keeps what J says; it wants its own blocks kept. -/
def Seq (P : Program) (gf : Nat) (lb : Array Value) (bg : Nat) (L : List (List Int)) (w : World) : Prop :=
  ∀ (n m l : Nat) (W : World) (J Jx : Nat → List Rw → World → Prop), Below w.heap.size w W →
    (∀ D1 pre A B, J D1 pre A → Below A.heap.size A B → J D1 pre B) →
    (∀ D1 pre x W0 W1, W.heap.size ≤ D1 → D1 ≤ W0.heap.size → J D1 pre W0 → Below W0.heap.size W0 W1 → NewRow W0 W1 x → (pre.map Prod.fst ++ [x.1]) <+: L →
      YieldAt Fence.wide m P l #[x.2] W1 fun e W' => (e = .returned (.bool true) ∧ J D1 (pre ++ [x]) W' ∧ Kept W.heap.size D1 bg W1 W') ∨ (e = .returned (.bool false) ∧ Jx D1 (pre ++ [x]) W')) →
    (∀ W', Below W.heap.size W W' → J W'.heap.size [] W') →
    CallsIn Fence.wide n P gf (#[.func (.yield l) #[] #[]] ++ lb) W fun e W' => (∃ v, e = .returned v) ∧
      ((∃ D1 ys, ys.map Prod.fst = L ∧ J D1 ys W') ∨ (∃ D1 ys, ys.map Prod.fst <+: L ∧ Jx D1 ys W'))

/-- How a body may be left. -/
def rowsPost (D D1 bg : Nat) (I Ix : Nat → List Rw → World → Prop) (xs : List Rw) (W : World) : Exit → Act → World → Prop
  | .normal, _, W' => Kept D D1 bg W W' ∧ I D1 xs W'
  | .ret, _, W' => Kept D D1 bg W W' ∧ Ix D1 xs W'
  | _, _, _ => False

theorem out_put {lo hi l : Nat} {W : World} (o : Obj) (h1 : lo ≤ l) (h2 : l < hi) : Out lo hi W (W.putObj l o) :=
  ⟨rfl, rfl, rfl, by simp, fun k hk hne => World.putObj_heap_other (by omega)⟩

/-- The law of the loop: 'for x := range seq { body }', the body being left at its end or by return. -/
theorem range_rows {P : Program} {g : Operand} {ps : Array Tmp} {assign body : Code} {Q : Exit → Act → World → Prop} {a : Act} {w : World} {n : Nat}
    {gf : Nat} {lb : Array Value} {bg : Nat} {L : List (List Int)} (hps : ps.size = 1) (hg : a.eval g = .func (.func gf) #[] lb) (eg : ∀ args w, (callFunc gf args).run P w = .ok (.enter gf args) w)
    (hseq : Seq P gf lb bg L w) (hbg : bg < w.heap.size) (I Ix : Nat → List Rw → World → Prop)
    (hI : ∀ D1 pre A B, I D1 pre A → Out w.heap.size (w.heap.size + 2) A B → I D1 pre B)
    (hIx : ∀ D1 pre A B, Ix D1 pre A → Out w.heap.size (w.heap.size + 2) A B → Ix D1 pre B)
    (h0 : ∀ W', Below w.heap.size w W' → w.heap.size + 2 ≤ W'.heap.size → I W'.heap.size [] W')
    (a₁ : Value → Act)
    (hassign : ∀ (l m : Nat) (x : Value) (W : World) (K : Act → World → Prop), K (a₁ x) W →
      assign.wpIn (Fence.wide.inRound l) m P (Exit.then K (fun _ _ _ => False)) { tmps := (ps.zip #[x]).foldl (fun t (p, v) => t.setIfInBounds p v) a.tmps, defers := [] } W)
    (hbody : ∀ (m D1 : Nat) (pre : List Rw) (x : Rw) (W0 W1 : World), w.heap.size + 2 ≤ D1 → D1 ≤ W0.heap.size → I D1 pre W0 → Out w.heap.size (w.heap.size + 2) W0 W1 → NewRow W0 W1 x → (pre.map Prod.fst ++ [x.1]) <+: L →
      body.wpIn (Fence.wide.inRound (w.heap.size + 1)) m P (rowsPost w.heap.size D1 bg I Ix (pre ++ [x]) W1) (a₁ x.2) W1)
    (hdone : ∀ (D1 : Nat) (ys : List Rw) (W : World), ys.map Prod.fst = L → I D1 ys W → W.heap[w.heap.size]? = some (.deferred (some [])) → Q .normal { a with defers := { target := .collected w.heap.size, args := #[] } :: a.defers } W)
    (hstop : ∀ (D1 : Nat) (ys : List Rw) (W : World), ys.map Prod.fst <+: L → Ix D1 ys W → W.heap[w.heap.size]? = some (.deferred (some [])) → Code.ret.wpIn Fence.wide n P Q { a with defers := { target := .collected w.heap.size, args := #[] } :: a.defers } W) :
    (Code.rangeFunc g ps assign body).wpIn Fence.wide n P Q a w := by
  refine wpIn_rangeFunc fun fn hfn => ?_
  let rec_ : LoopState → Option Code → Loop := fun st pe => { state := st, pending := pe, fn, tmps := a.tmps, params := ps, assign, body, defers := w.heap.size }
  obtain ⟨S, hS⟩ : ∃ S, (w.alloc (.deferred (some []))).alloc (.loop (rec_ .ready none)) = S := ⟨_, rfl⟩
  have hz : S.heap.size = w.heap.size + 2 := by rw [← hS]; simp
  have hbS : Below w.heap.size w S := by rw [← hS]; exact ((Below.refl _ _).alloc (Nat.le_refl _) _).alloc (by simp) _
  have hl : S.heap[w.heap.size + 1]? = some (.loop (rec_ .ready none)) := by
    rw [← hS]; have := World.alloc_heap_new (w.alloc (.deferred (some []))) (.loop (rec_ .ready none)); simpa using this
  have hd : S.heap[w.heap.size]? = some (.deferred (some [])) := by
    rw [← hS]; exact (Below.heap_alloc _ _ _ (by simp)).trans (World.alloc_heap_new w _)
  refine ⟨w.heap.size + 1, [{ target := .collected w.heap.size, args := #[] }], S, { target := .fn (.func gf) lb, args := #[.func (.yield (w.heap.size + 1)) #[] #[]] }, S, gf, #[.func (.yield (w.heap.size + 1)) #[] #[]] ++ lb, S,
    (by rw [← hS]; exact run_enterLoop_outer _ _ _ _ _), (by simp only [resolve, hg]; simp [go_sem]), fun _ _ => trivial, (by simp [invoke, go_sem, eg]), (fun q => by cases q), ?_⟩
  let Rec (st : LoopState) (pe : Option Code) (W : World) : Prop := W.heap[w.heap.size + 1]? = some (.loop (rec_ st pe)) ∧ W.heap[w.heap.size]? = some (.deferred (some []))
  have keep : ∀ {st pe A B}, Rec st pe A → Below A.heap.size A B → Rec st pe B := fun h hb =>
    ⟨(hb.block _ (Array.getElem?_eq_some_iff.1 h.1).1).trans h.1, (hb.block _ (Array.getElem?_eq_some_iff.1 h.2).1).trans h.2⟩
  have put : ∀ {st pe st' pe' A}, Rec st pe A → Rec st' pe' (A.putObj (w.heap.size + 1) (.loop (rec_ st' pe'))) := fun h =>
    ⟨World.putObj_heap_same (Array.getElem?_eq_some_iff.1 h.1).1, (World.putObj_heap_other (by omega)).trans h.2⟩
  refine (hseq (n - 1) 0 (w.heap.size + 1) S (fun D1 pre W => I D1 pre W ∧ Rec .ready none W) (fun D1 pre W => Ix D1 pre W ∧ Rec .done (some .ret) W) hbS
    (fun D1 pre A B h hb => ⟨hI _ _ _ _ h.1 (Out.of_below hb), keep h.2 hb⟩) ?_ (fun W' hb => ⟨h0 W' (hbS.trans (hb.mono (by omega))) (by have := hb.size; omega), keep ⟨hl, hd⟩ hb⟩)).mono ?_
  · intro D1 pre x W0 W1 hD hD0 hJ hb hx hpre
    have hR1 : Rec .ready none W1 := keep hJ.2 hb
    have hz1 := hb.size
    refine ⟨fn, _, assign, body, run_yield hR1.1 (by show #[x.2].size = ps.size; rw [hps]; rfl), roundIn_of_wpIn hfn (hassign _ _ x.2 W1 _ ⟨_, run_beginRound hR1.1 rfl, ?_⟩)⟩
    have hR2 : Rec .busy none (W1.putObj (w.heap.size + 1) (.loop (rec_ .busy none))) := put hR1
    have hx2 : NewRow W0 (W1.putObj (w.heap.size + 1) (.loop (rec_ .busy none))) x := hx.keep fun k q1 q2 => World.putObj_heap_other (by omega)
    refine wpIn_mono (hbody 0 D1 pre x W0 _ (by omega) hD0 hJ.1 ((Out.of_below hb).trans (out_put _ (by omega) (by omega))) hx2 hpre) ?_
    intro e a3 W3 hp
    cases e with
    | normal =>
      obtain ⟨hk, hi⟩ := hp
      have hR3 : Rec .busy none W3 := ⟨(hk.mid _ (by omega) (by omega)).trans hR2.1, (hk.mid _ (by omega) (by omega)).trans hR2.2⟩
      refine ⟨_, _, run_endRound none hR3.1, .inl ⟨rfl, ⟨hI _ _ _ _ hi (out_put _ (by omega) (by omega)), put hR3⟩, ?_⟩⟩
      exact ⟨by have := hk.size; simpa using this, (World.putObj_heap_other (by omega)).trans (hk.box.trans (World.putObj_heap_other (by omega))),
        fun k q1 q2 => (World.putObj_heap_other (by omega)).trans ((hk.mid k (by omega) q2).trans (World.putObj_heap_other (by omega)))⟩
    | ret =>
      obtain ⟨hk, hi⟩ := hp
      have hR3 : Rec .busy none W3 := ⟨(hk.mid _ (by omega) (by omega)).trans hR2.1, (hk.mid _ (by omega) (by omega)).trans hR2.2⟩
      exact ⟨_, _, run_endRound (some .ret) hR3.1, .inr ⟨rfl, hIx _ _ _ _ hi (out_put _ (by omega) (by omega)), put hR3⟩⟩
    | exit id => exact hp.elim
    | goto t => exact hp.elim
    | panic ch => exact hp.elim
    | outgrown => exact hp.elim
  · rintro e W2 ⟨⟨v, rfl⟩, (⟨D1, ys, hy, hi, hr⟩ | ⟨D1, ys, hy, hi, hr⟩)⟩
    · exact ⟨none, _, run_endLoop hr.1 (by simp [rec_]), hdone D1 ys _ hy (hI _ _ _ _ hi (out_put _ (by omega) (by omega))) ((World.putObj_heap_other (by omega)).trans hr.2)⟩
    · exact ⟨some .ret, _, run_endLoop hr.1 (by simp [rec_]), hstop D1 ys _ hy (hIx _ _ _ _ hi (out_put _ (by omega) (by omega))) ((World.putObj_heap_other (by omega)).trans hr.2)⟩
end Go.Proofs.Ytafpbnjfmieamaa.rf

/-
  Contracts of functions of Go's library at this program: the library's theorems, applied to the numbers that the functions have here.
-/
namespace Go.Proofs
open Go.Shelf
def Try.lays189_ren : Go.Shelf.Ren := ⟨fun | 189 => 81 | 125 => 102 | 257 => 101 | 128 => 116 | 129 => 117 | 294 => 107 | 295 => 108 | 296 => 109 | 297 => 110 | 298 => 111 | 299 => 112 | 216 => 113 | 300 => 114 | 301 => 115 | 328 => 123 | 329 => 124 | 330 => 125 | 331 => 126 | 332 => 127 | 215 => 83 | 343 => 129 | n => n, fun | 28 => 23 | 3 => 3 | 46 => 76 | 0 => 0 | 51 => 140 | 53 => 142 | 4 => 4 | 183 => 133 | 182 => 132 | 131 => 90 | 5 => 5 | 9 => 9 | 218 => 146 | 222 => 150 | 228 => 153 | 229 => 154 | n => n, fun | n => n⟩
theorem Try.lays189 : Go.Proofs.Lays.n189 Try.prog Try.lays189_ren := {
  mixed := by kernel_rfl
  f125 := Try.func102.trans (congrArg some (by kernel_rfl))
  f128 := Try.func116.trans (congrArg some (by kernel_rfl))
  f129 := Try.func117.trans (congrArg some (by kernel_rfl))
  f189 := Try.func81.trans (congrArg some (by kernel_rfl))
  f215 := Try.func83.trans (congrArg some (by kernel_rfl))
  f216 := Try.func113.trans (congrArg some (by kernel_rfl))
  f257 := Try.func101.trans (congrArg some (by kernel_rfl))
  f294 := Try.func107.trans (congrArg some (by kernel_rfl))
  f295 := Try.func108.trans (congrArg some (by kernel_rfl))
  f296 := Try.func109.trans (congrArg some (by kernel_rfl))
  f297 := Try.func110.trans (congrArg some (by kernel_rfl))
  f298 := Try.func111.trans (congrArg some (by kernel_rfl))
  f299 := Try.func112.trans (congrArg some (by kernel_rfl))
  f300 := Try.func114.trans (congrArg some (by kernel_rfl))
  f301 := Try.func115.trans (congrArg some (by kernel_rfl))
  f328 := Try.func123.trans (congrArg some (by kernel_rfl))
  f329 := Try.func124.trans (congrArg some (by kernel_rfl))
  f330 := Try.func125.trans (congrArg some (by kernel_rfl))
  f331 := Try.func126.trans (congrArg some (by kernel_rfl))
  f332 := Try.func127.trans (congrArg some (by kernel_rfl))
  f343 := Try.func129.trans (congrArg some (by kernel_rfl))
  t0 := Try.underlying0
  a0 := Try.isAgg0
  z0 := Try.sizeOf0
  v0 := Try.zeroValue0
  t3 := Try.underlying3
  a3 := Try.isAgg3
  z3 := Try.sizeOf3
  v3 := Try.zeroValue3
  t4 := Try.underlying4
  a4 := Try.isAgg4
  z4 := Try.sizeOf4
  v4 := Try.zeroValue4
  t5 := Try.underlying5
  a5 := Try.isAgg5
  z5 := Try.sizeOf5
  v5 := Try.zeroValue5
  t9 := Try.underlying9
  a9 := Try.isAgg9
  z9 := Try.sizeOf9
  v9 := Try.zeroValue9
  t28 := Try.underlying23
  a28 := Try.isAgg23
  z28 := Try.sizeOf23
  v28 := Try.zeroValue23
  t46 := Try.underlying76
  a46 := Try.isAgg76
  z46 := Try.sizeOf76
  v46 := Try.zeroValue76
  t51 := Try.underlying140
  a51 := Try.isAgg140
  z51 := Try.sizeOf140
  v51 := Try.zeroValue140
  t53 := Try.underlying142
  a53 := Try.isAgg142
  z53 := Try.sizeOf142
  v53 := Try.zeroValue142
  t131 := Try.underlying90
  a131 := Try.isAgg90
  z131 := Try.sizeOf90
  v131 := Try.zeroValue90
  t182 := Try.underlying132
  a182 := Try.isAgg132
  z182 := Try.sizeOf132
  v182 := Try.zeroValue132
  t183 := Try.underlying133
  a183 := Try.isAgg133
  z183 := Try.sizeOf133
  v183 := Try.zeroValue133
  t218 := Try.underlying146
  a218 := Try.isAgg146
  z218 := Try.sizeOf146
  v218 := Try.zeroValue146
  t222 := Try.underlying150
  a222 := Try.isAgg150
  z222 := Try.sizeOf150
  v222 := Try.zeroValue150
  t228 := Try.underlying153
  a228 := Try.isAgg153
  z228 := Try.sizeOf153
  v228 := Try.zeroValue153
  t229 := Try.underlying154
  a229 := Try.isAgg154
  z229 := Try.sizeOf154
  v229 := Try.zeroValue154 }
open Go.Sort Go.RowKit in
theorem Try.slices_Sort_int (blk off cap : Nat) (zs : List Int) (w : World) (hH : Holds (Value.int .i64) w blk off zs.toArray) (hblk : blk < w.heap.size) (hsz : zs.length < 4611686018427387904) :
    Calls Try.prog 81 #[.slice (some ⟨blk, off, none⟩) zs.length cap] w fun e w' =>
      e = .returned (.tuple #[]) ∧ ∃ n os, w' = grow (putRow (Value.int .i64) (Sort.ahead w n) blk off (zs.mergeSort fun x y => decide (x ≤ y)).toArray) os := Any.slices_Sort_int Try.lays189 blk off cap zs w hH hblk hsz
def Try.lays114_ren : Go.Shelf.Ren := ⟨fun | 114 => 100 | n => n, fun | 28 => 23 | 3 => 3 | 4 => 4 | 9 => 9 | 20 => 20 | 0 => 0 | n => n, fun | n => n⟩
theorem Try.lays114 : Go.Proofs.Lays.n114 Try.prog Try.lays114_ren := {
  mixed := by kernel_rfl
  f114 := Try.func100.trans (congrArg some (by kernel_rfl))
  t0 := Try.underlying0
  a0 := Try.isAgg0
  z0 := Try.sizeOf0
  v0 := Try.zeroValue0
  t3 := Try.underlying3
  a3 := Try.isAgg3
  z3 := Try.sizeOf3
  v3 := Try.zeroValue3
  t4 := Try.underlying4
  a4 := Try.isAgg4
  z4 := Try.sizeOf4
  v4 := Try.zeroValue4
  t9 := Try.underlying9
  a9 := Try.isAgg9
  z9 := Try.sizeOf9
  v9 := Try.zeroValue9
  t20 := Try.underlying20
  a20 := Try.isAgg20
  z20 := Try.sizeOf20
  v20 := Try.zeroValue20
  t28 := Try.underlying23
  a28 := Try.isAgg23
  z28 := Try.sizeOf23
  v28 := Try.zeroValue23 }
open Go.Lib in
theorem Try.slices_Min_int (b off n c : Nat) (zs : List Int) (w : World) (hn : 0 < n) (hz : n ≤ zs.length) (hbig : n ≤ 9223372036854775807) (hc : ∀ j, j < zs.length → w.cell? ⟨b, off + j, none⟩ = some (.int .i64 (zs.getD j 0))) :
    Calls Try.prog 100 #[.slice (some ⟨b, off, none⟩) n c] w fun e w' => e = .returned (.int .i64 (Lib.minOf (zs.take n))) ∧ w' = w := Any.slices_Min_int Try.lays114 b off n c zs w hn hz hbig hc
def Try.lays112_ren : Go.Shelf.Ren := ⟨fun | 112 => 82 | n => n, fun | 28 => 23 | 3 => 3 | 4 => 4 | 0 => 0 | n => n, fun | n => n⟩
theorem Try.lays112 : Go.Proofs.Lays.n112 Try.prog Try.lays112_ren := {
  mixed := by kernel_rfl
  f112 := Try.func82.trans (congrArg some (by kernel_rfl))
  t0 := Try.underlying0
  a0 := Try.isAgg0
  z0 := Try.sizeOf0
  v0 := Try.zeroValue0
  t3 := Try.underlying3
  a3 := Try.isAgg3
  z3 := Try.sizeOf3
  v3 := Try.zeroValue3
  t4 := Try.underlying4
  a4 := Try.isAgg4
  z4 := Try.sizeOf4
  v4 := Try.zeroValue4
  t28 := Try.underlying23
  a28 := Try.isAgg23
  z28 := Try.sizeOf23
  v28 := Try.zeroValue23 }
open Go.RowKit Go.Lib Go.Sort in
theorem Try.slices_Reverse_int (blk off cap : Nat) (zs : List Int) (w : World) (hH : Holds (Value.int .i64) w blk off zs.toArray) (hsz : zs.length ≤ 9223372036854775807) :
    Calls Try.prog 82 #[.slice (some ⟨blk, off, none⟩) zs.length cap] w fun e w' => e = .returned (.tuple #[]) ∧ ∃ n, w' = putRow (Value.int .i64) (Sort.ahead w n) blk off zs.reverse.toArray := Any.slices_Reverse_int Try.lays112 blk off cap zs w hH hsz
open Go.RowKit Go.Lib Go.Sort in
theorem Try.slices_Reverse_int_empty (a : Option Addr) (cap : Nat) (w : World) :
    Calls Try.prog 82 #[.slice a 0 cap] w fun e w' => e = .returned (.tuple #[]) ∧ w' = w := Any.slices_Reverse_int_empty Try.lays112 a cap w
open Go.RowKit Go.Sort in
theorem Try.slices_Sort_int_none (p : Option Addr) (cap : Nat) (w : World) :
    Calls Try.prog 81 #[.slice p 0 cap] w fun e w' => e = .returned (.tuple #[]) ∧ w' = w := Any.slices_Sort_int_none Try.lays189 p cap w
end Go.Proofs
