import Derived.Test.YtafpbnjfmieamaaGreatY22
import Derived.Test.YtafpbnjfmieamaaGreatY25
import Derived.Test.YtafpbnjfmieamaaGreatY26
import Derived.Test.YtafpbnjfmieamaaGreatY19
/-
  SurfacesIn of the program.
-/
namespace Go.Proofs.YtafpbnjfmieamaaGreat.lst
open Go.ChangeShapes Go.WideShapes Go.ChangeAt Go.RowKit
open Go.Proofs.YtafpbnjfmieamaaGreat.mem Go.Proofs.YtafpbnjfmieamaaGreat.ints Go.Proofs.YtafpbnjfmieamaaGreat.arr Go.Proofs.YtafpbnjfmieamaaGreat.pm Go.Proofs.YtafpbnjfmieamaaGreat.sf Go.Proofs.YtafpbnjfmieamaaGreat.gl Go.Proofs.YtafpbnjfmieamaaGreat.orb
open Go.Proofs.YtafpbnjfmieamaaGreat.wd
set_option linter.unusedVariables false
set_option maxRecDepth 100000

set_option maxHeartbeats 1000000 in
/-- The closure: it is false exactly where the stratum is the one asked for. -/
theorem pick_any (st r u : List Int) (As : Option Addr) (ns cs sb hi h1 : Nat) (a b : Value) (w : World) (hx : Srd w hi (.agg #[a, b]) r u) (hb : Arr w sb [.slice As ns cs] 22) (hs : Rd w h1 As ns (V st)) (hn : r.length ≤ 1048576) (hm : u.length ≤ 1048576) (hl : ns ≤ 1048576) :
    Calls Tryz.prog 23 #[.agg #[a, b], .pointer (some ⟨sb, 0, none⟩)] w fun e w' => e = .returned (.bool (!decide (strF r u = st))) ∧ Below w.heap.size w w' := by
  have HX := Lib.hid hx; have HB := Lib.hid hb; have HS := Lib.hid hs
  have hsb := hb.lt
  have E1 : Hid (strF r u = strF r u) := Lib.hid rfl
  clear hx hb hs
  have ST : Hid (∃ W, W = w.alloc (.cells #[a, b] 38) ∧ Below w.heap.size w W ∧ Arr W w.heap.size [a, b] 38) := Lib.hid ⟨_, rfl, (Below.refl _ _).alloc (Nat.le_refl _) _, Arr.new w _ _ rfl⟩
  go_enter Tryz.func23, Tryz.ntmps23
  go_wp2_with fail
  obtain ⟨w1, eW, b1, ar⟩ := ST.out
  rw [← eW]
  have B1 := Lib.hid b1; have AR := Lib.hid ar
  clear eW b1 ar ST
  have s1 := B1.out.size
  refine wp_region_held_drew (S := Hld w1.heap.size w1.heap.size w1 [(w.heap.size, [a, b]), (sb, [.slice As ns cs])]) (by kernel_rfl) (Hld.start (fun p hp => by
    rcases List.mem_cons.1 hp with rfl | hp
    · exact ⟨AR.out.lt, fun k v hk => by rw [Nat.zero_add]; exact AR.out.cell hk⟩
    · rcases List.mem_cons.1 hp with rfl | hp
      · exact ⟨by omega, fun k v hk => by rw [Nat.zero_add]; exact (HB.out.keep B1.out hsb).cell hk⟩
      · simp at hp)) (fun hHeld => ?_)
  have b1 : Below w1.heap.size w1 w1.drew := ⟨rfl, rfl, rfl, Nat.le_refl _, fun _ _ => rfl⟩
  have B2 := Lib.hid (B1.out.trans (b1.mono s1))
  have s2 := b1.size
  generalize w1.drew = w2 at *
  clear b1 B1 AR
  refine wpAnyH_take (i := 0) (v := .agg #[a, b]) rfl (by kernel_rfl) (by kernel_rfl) (by kernel_rfl) (fun _ _ _ h => h) (Or.inl ⟨by kernel_rfl, fun w hSw => by have h0 := hSw.fst 0 _ rfl; have h1 := hSw.fst 1 _ rfl; go_simp⟩) hHeld ?_
  refine wpAnyH_take (i := 2) (v := .slice As ns cs) rfl (by kernel_rfl) (by kernel_rfl) (by kernel_rfl) (fun _ _ _ h => h) (Or.inl ⟨by kernel_rfl, fun w hSw => by have h2 := hSw.snd 0 _ rfl; go_simp⟩) hHeld ?_
  refine wpAnyH_ready (rs := [1]) (by kernel_rfl) (by simp) (AllReadyH.cons rfl (fun K hK => ?_) AllReadyH.nil)
  go_simp
  refine (st_impl _ r u _ _ (HX.out.keep (B2.out.mono HX.out.top) (Nat.le_refl _)) hn hm).mono ?_
  rintro e w3 ⟨v3, rfl, o3, b3⟩
  obtain ⟨A3, c3, rfl⟩ := mem.own_form o3
  have R3 := Lib.hid (Row.of_own o3).rd
  have B3 := Lib.hid (B2.out.trans (b3.mono (by omega)))
  have s3 := b3.size
  have hsl : (strF r u).length ≤ 1048576 := strF_len r u
  have EQ : Hid (eqi (strF r u) st = decide (strF r u = st)) := Lib.hid rfl
  clear o3
  generalize hsr : strF r u = sr at *
  have HSR := Lib.hid hsr; clear hsr
  go_wp2_with fail
  have hHeld2 := hHeld.later b3 (Nat.le_refl _)
  clear b3 hHeld B2
  refine hK.out _ _ hHeld2 (fun hHeld => ?_)
  clear hK K hHeld2
  refine wpAnyH_ready (rs := [3]) (by kernel_rfl) (by simp) (AllReadyH.cons rfl (fun K hK => ?_) AllReadyH.nil)
  go_simp
  refine (same.impl_b A3 sr.length c3 sr As ns cs st _ _ _ R3.out (HS.out.keep (B3.out.mono HS.out.2.1) (Nat.le_refl _)) hsl hl).mono ?_
  rintro e w4 ⟨rfl, b4⟩
  rw [EQ.out]
  have B4 := Lib.hid (B3.out.trans (b4.mono (by omega)))
  go_wp2_with fail
  have hHeld2 := hHeld.later b4 (Nat.le_refl _)
  clear b4 hHeld
  refine hK.out _ _ hHeld2 (fun hHeld => ?_)
  clear hK K hHeld2
  refine wpAnyH_take (i := 4) (v := .bool (!decide (sr = st))) rfl (by kernel_rfl) (by kernel_rfl) (by kernel_rfl) (fun _ _ _ h => h) (Or.inl ⟨by kernel_rfl, fun w hSw => by go_simp⟩) hHeld ?_
  refine wpAnyH_take (i := 5) (v := .bool (!decide (sr = st))) rfl (by kernel_rfl) (by kernel_rfl) (by kernel_rfl) (fun _ _ _ h => h) (Or.inl ⟨by kernel_rfl, fun w hSw => by go_simp⟩) hHeld ?_
  refine wpAnyH_done (by kernel_rfl) ?_ _
  clear hHeld
  go_simp
  go_wp2_with fail
  go_ret
  refine ⟨?_, B4.out⟩
  rw [HSR.out]
  rfl
/-- The first item that is not to stay. -/
def Fst (st : List Int) (Z : List Item) (i : Int) : Prop := (i = -1 ∧ ∀ z ∈ Z, inS st z = true) ∨ ∃ (k : Nat) (z : Item), i = (k : Int) ∧ Z[k]? = some z ∧ inS st z = false ∧ ∀ y ∈ Z.take k, inS st y = true
set_option maxHeartbeats 1000000 in
theorem ixf_any (st : List Int) (As : Option Addr) (ns cs sb h1 lo hi b0 n : Nat) (ex : Nat → Prop) (Z : List Item) (A : Option Addr) (c : Nat) (w : World) (ho : w.ownsRow b0 38 2 (.slice A Z.length c) Z.length (hsOf Z)) (hp : Pk w lo hi ex Z) (hz : ∀ z ∈ Z, Sf n (sOf z).1 (sOf z).2)
    (hb : Arr w sb [.slice As ns cs] 22) (hs : Rd w h1 As ns (V st)) (hl : ns ≤ 1048576) (hn : Z.length ≤ 1000) :
    Calls Tryz.prog 38 #[.slice A Z.length c, .func (.func 23) #[] #[.pointer (some ⟨sb, 0, none⟩)]] w fun e w' => ∃ i : Int, Fst st Z i ∧ e = .returned (.int .i64 i) ∧ Below w.heap.size w w' := by
  have HO := Lib.hid ho; have HP := Lib.hid hp; have HZ := Lib.hid hz; have HB := Lib.hid hb; have HS := Lib.hid hs
  clear ho hp hz hb hs
  go_enter Tryz.func38, Tryz.ntmps38
  go_wp2_with fail
  go_loopw [5, 8] (fun _ i wr => ∃ k : Nat, k ≤ Z.length ∧ i = .int .i64 k ∧ Below w.heap.size w wr ∧ Hid (∀ y ∈ Z.take k, inS st y = true)) (fun _ i _ => Z.length - (intOf i).toNat)
  case atStart => exact ⟨0, Nat.zero_le _, rfl, Below.refl _ _, Lib.hid (fun y hy => by simp at hy)⟩
  case round =>
    obtain ⟨k, hk, rfl, bl, HD⟩ := hrel
    have BL := Lib.hid bl; clear bl
    by_cases hlt : k < Z.length
    · obtain ⟨z, hzk⟩ : ∃ z, Z[k]? = some z := ⟨_, List.getElem?_eq_getElem hlt⟩
      obtain ⟨g, off, rfl, hg, q0, q1⟩ := own_at HO.out rfl hzk
      have PR := HP.out.keep BL.out.size (fun b l h _ => BL.out.block b (by have := HP.out.top; omega))
      obtain ⟨P, c', Q, d', ep, srd⟩ := PR.srd (List.mem_of_getElem? hzk)
      have SFz := HZ.out z (List.mem_of_getElem? hzk)
      have hc0 : wr.cell? ⟨g, off + k * 2, none⟩ = some (.slice P (sOf z).1.length c') := by
        rw [BL.out.cell (p := ⟨g, off + k * 2, none⟩) hg, q0, ep]
      have hc1 : wr.cell? ⟨g, off + k * 2 + 1, none⟩ = some (.slice Q (sOf z).2.length d') := by
        rw [BL.out.cell (p := ⟨g, off + k * 2 + 1, none⟩) hg, q1, ep]
      have SRD := Lib.hid srd
      have n24 := sfn24 SFz
      have r24 : (sOf z).1.length ≤ 24 := by rw [SFz.lr]; exact n24
      have u24 : (sOf z).2.length ≤ 24 := by rw [SFz.lu]; exact n24
      have IN : Hid (inS st z = decide (strF (sOf z).1 (sOf z).2 = st)) := Lib.hid rfl
      have ZK := Lib.hid hzk
      have AB := Lib.hid (HB.out.keep BL.out HB.out.lt); have RS := Lib.hid (HS.out.keep (BL.out.mono HS.out.2.1) (Nat.le_refl _))
      generalize (sOf z).1 = r at *; generalize (sOf z).2 = u at *
      clear ep srd q0 q1 hzk PR SFz
      go_wp2_with fail
      refine (pick_any st r u As ns cs sb _ _ _ _ _ SRD.out AB.out RS.out (by omega) (by omega) hl).mono ?_
      rintro e w1 ⟨rfl, b1⟩
      rw [← IN.out]
      have BL1 := Lib.hid (BL.out.trans (b1.mono BL.out.size))
      clear b1 hc0 hc1
      cases hin : inS st z
      · have FF : Hid (Fst st Z (k : Int)) := Lib.hid (.inr ⟨k, z, rfl, ZK.out, hin, HD.out⟩)
        go_wp2_with fail
        go_ret
        exact ⟨_, FF.out, rfl, BL1.out⟩
      · have HD2 : Hid (∀ y ∈ Z.take (k + 1), inS st y = true) := Lib.hid (fun y hy => by
          rw [List.take_add_one, ZK.out] at hy
          rcases List.mem_append.1 hy with q | q
          · exact HD.out y q
          · obtain rfl : y = z := by simpa using q
            exact hin)
        clear HD
        go_wp2_with fail
        go_roundw
        case rel => exact ⟨k + 1, by omega, by go_num, BL1.out, HD2⟩
        case measure => simp [intOf]; omega
    · obtain rfl : k = Z.length := by omega
      have FF : Hid (Fst st Z (-1)) := Lib.hid (.inl ⟨rfl, fun z hz => HD.out z (by rw [List.take_of_length_le (Nat.le_refl _)]; exact hz)⟩)
      clear HD
      go_wp2_with fail
      go_ret
      exact ⟨_, FF.out, rfl, BL.out⟩
/-- What a block of headers holds while it is gone through: the first i items stay, those from j on are as they were. -/
structure Ti (w2 wr : World) (g c : Nat) (Z : List Item) (st : List Int) (i j : Nat) : Prop where
  cur : ∃ cur : Array Value, wr.heap[g]? = some (.cells cur 38 (0, 0)) ∧ cur.size = c * 2 ∧ cur.toList.take (i * 2) = hsOf ((Z.take j).filter (inS st)) ∧ ∀ k, j * 2 ≤ k → k < Z.length * 2 → cur[k]? = (hsOf Z)[k]?
  len : ((Z.take j).filter (inS st)).length = i
  oth : ∀ k, k < w2.heap.size → k ≠ g → wr.heap[k]? = w2.heap[k]?
  os : wr.os = w2.os
  tape : wr.tape = w2.tape
  output : wr.output = w2.output
  size : w2.heap.size ≤ wr.heap.size
theorem Ti.keep {w2 wr w' : World} {g c i j : Nat} {Z : List Item} {st : List Int} (h : Ti w2 wr g c Z st i j) (hb : Below wr.heap.size wr w') : Ti w2 w' g c Z st i j := by
  obtain ⟨cur, h1, h2⟩ := h.cur
  refine ⟨⟨cur, (hb.block g (Array.getElem?_eq_some_iff.1 h1).1).trans h1, h2⟩, h.len, fun k q1 q2 => (hb.block k (Nat.lt_of_lt_of_le q1 h.size)).trans (h.oth k q1 q2), hb.os.trans h.os, hb.tape.trans h.tape, hb.output.trans h.output, Nat.le_trans h.size hb.size⟩
theorem Ti.skip {w2 wr : World} {g c i j : Nat} {Z : List Item} {st : List Int} {z : Item} (h : Ti w2 wr g c Z st i j) (hz : Z[j]? = some z) (hn : inS st z = false) : Ti w2 wr g c Z st i (j + 1) := by
  have e : (Z.take (j + 1)).filter (inS st) = (Z.take j).filter (inS st) := by
    rw [List.take_add_one, hz, List.filter_append]
    simp [hn]
  obtain ⟨cur, h1, h2, h3, h4⟩ := h.cur
  exact ⟨⟨cur, h1, h2, by rw [e]; exact h3, fun k q1 q2 => h4 k (by omega) q2⟩, by rw [e]; exact h.len, h.oth, h.os, h.tape, h.output, h.size⟩
/-- One more stays: its headers are written at place i. -/
theorem Ti.put {w2 wr : World} {g c i j : Nat} {Z : List Item} {st : List Int} {z : Item} (h : Ti w2 wr g c Z st i j) (hij : i < j) (hc : Z.length ≤ c) (hz : Z[j]? = some z) (hn : inS st z = true) :
    Ti w2 ((wr.setCell ⟨g, i * 2, none⟩ z.2.1.1).setCell ⟨g, i * 2 + 1, none⟩ z.2.1.2) g c Z st (i + 1) (j + 1) := by
  have hjl := (List.getElem?_eq_some_iff.1 hz).1
  have e : (Z.take (j + 1)).filter (inS st) = (Z.take j).filter (inS st) ++ [z] := by
    rw [List.take_add_one, hz, List.filter_append]
    simp [hn]
  obtain ⟨cur, h1, h2, h3, h4⟩ := h.cur
  rw [setCell_eq_setRow wr g (i * 2) cur _ _ _ h1]
  have q1 := setRow_heap wr g cur (cur.setIfInBounds (i * 2) z.2.1.1) _ _ h1
  rw [setCell_eq_setRow _ g (i * 2 + 1) _ _ _ _ q1, setRow_setRow]
  refine ⟨⟨_, setRow_heap wr g cur _ _ _ h1, by simp [h2], ?_, fun k q2 q3 => ?_⟩, ?_, fun k q2 q3 => (setRow_other _ _ _ _ q3).trans (h.oth k q2 q3), h.os, h.tape, h.output, by simpa using h.size⟩
  · rw [e, hs_app, ← h3]
    apply List.ext_getElem?
    intro k
    have hl : (cur.toList.take (i * 2)).length = i * 2 := by simp; omega
    rw [List.getElem?_append, hl]
    by_cases c1 : k < i * 2
    · rw [if_pos c1, List.getElem?_take_of_lt (by omega), List.getElem?_take_of_lt c1]
      simp only [Array.toList_setIfInBounds]
      rw [List.getElem?_set_ne (by omega), List.getElem?_set_ne (by omega)]
    · rw [if_neg c1]
      have hcs : cur.toList.length = c * 2 := by simp [h2]
      by_cases c2 : k = i * 2
      · subst c2
        rw [List.getElem?_take_of_lt (by omega)]
        simp only [Array.toList_setIfInBounds]
        rw [List.getElem?_set_ne (by omega), List.getElem?_set_self (by omega), Nat.sub_self]
        rfl
      · by_cases c3 : k = i * 2 + 1
        · subst c3
          rw [List.getElem?_take_of_lt (by omega)]
          simp only [Array.toList_setIfInBounds]
          rw [List.getElem?_set_self (by rw [List.length_set]; omega), show i * 2 + 1 - i * 2 = 1 by omega]
          rfl
        · rw [List.getElem?_eq_none (by simp; omega), List.getElem?_eq_none (by simp [hsOf]; omega)]
  · rw [← h4 k (by omega) q3, Array.getElem?_setIfInBounds, if_neg (by omega), Array.getElem?_setIfInBounds, if_neg (by omega)]
  · rw [e, List.length_append, h.len]
    rfl
theorem Ti.cells {w2 wr : World} {g c i j : Nat} {Z : List Item} {st : List Int} {z : Item} (h : Ti w2 wr g c Z st i j) (hz : Z[j]? = some z) : wr.cell? ⟨g, j * 2, none⟩ = some z.2.1.1 ∧ wr.cell? ⟨g, j * 2 + 1, none⟩ = some z.2.1.2 := by
  have hjl := (List.getElem?_eq_some_iff.1 hz).1
  obtain ⟨cur, h1, h2, h3, h4⟩ := h.cur
  obtain ⟨e1, e2⟩ := hs_at hz
  have k1 := h4 (j * 2) (Nat.le_refl _) (by omega)
  have k2 := h4 (j * 2 + 1) (by omega) (by omega)
  rw [e1] at k1
  rw [e2] at k2
  exact ⟨by simp [World.cell?, h1, k1], by simp [World.cell?, h1, k2]⟩
theorem Ti.there {w2 wr : World} {g c i j : Nat} {Z : List Item} {st : List Int} (h : Ti w2 wr g c Z st i j) (hi : i < c) : ∃ x y, wr.cell? ⟨g, i * 2, none⟩ = some x ∧ wr.cell? ⟨g, i * 2 + 1, none⟩ = some y ∧ wr.frozen? ⟨g, i * 2, none⟩ = false ∧ wr.frozen? ⟨g, i * 2 + 1, none⟩ = false := by
  obtain ⟨cur, h1, h2, h3, h4⟩ := h.cur
  have k1 : i * 2 < cur.size := by omega
  have k2 : i * 2 + 1 < cur.size := by omega
  exact ⟨cur[i * 2], cur[i * 2 + 1], by simp [World.cell?, h1, k1], by simp [World.cell?, h1, k2], by simp [World.frozen?, h1], by simp [World.frozen?, h1]⟩
end Go.Proofs.YtafpbnjfmieamaaGreat.lst

/-
  SurfacesIn of the program: slices.DeleteFunc walked.
-/
namespace Go.Proofs.YtafpbnjfmieamaaGreat.lst
open Go.ChangeShapes Go.WideShapes Go.ChangeAt Go.RowKit
open Go.Proofs.YtafpbnjfmieamaaGreat.mem Go.Proofs.YtafpbnjfmieamaaGreat.ints Go.Proofs.YtafpbnjfmieamaaGreat.arr Go.Proofs.YtafpbnjfmieamaaGreat.pm Go.Proofs.YtafpbnjfmieamaaGreat.sf Go.Proofs.YtafpbnjfmieamaaGreat.gl Go.Proofs.YtafpbnjfmieamaaGreat.orb
open Go.Proofs.YtafpbnjfmieamaaGreat.wd
set_option linter.unusedVariables false
set_option maxRecDepth 100000

theorem hs_take : ∀ (Z : List Item) (k : Nat), hsOf (Z.take k) = (hsOf Z).take (k * 2)
  | [], k => by simp [hsOf]
  | z :: t, 0 => by simp [hsOf]
  | z :: t, k + 1 => by
    have := hs_take t k
    unfold hsOf at this ⊢
    rw [List.take_succ_cons, List.flatMap_cons, List.flatMap_cons, this, show (k + 1) * 2 = k * 2 + 1 + 1 by omega]
    rfl
theorem filter_fst {st : List Int} {Z : List Item} {k : Nat} {z : Item} (hz : Z[k]? = some z) (hn : inS st z = false) (ha : ∀ y ∈ Z.take k, inS st y = true) : (Z.take (k + 1)).filter (inS st) = Z.take k := by
  rw [List.take_add_one, hz, List.filter_append, List.filter_eq_self.2 ha]
  simp [hn]
/-- What DeleteFunc gives: the row of those that stay; no other block is touched. -/
def DPost (st : List Int) (b0 : Nat) (Z : List Item) (v : Value) (w : World) (e : Ending) (w' : World) : Prop :=
  ∃ v', e = .returned v' ∧ w'.ownsRow b0 38 2 v' (Z.filter (inS st)).length (hsOf (Z.filter (inS st))) ∧ v'.ownBlock = v.ownBlock ∧ w.grownBy w' v.ownBlock
theorem zS_one : ∀ u ∈ (Value.agg #[.slice none 0 0, .slice none 0 0]).cells, u.oneCell' = true := by
  intro u hu
  simp [Value.cells] at hu
  subst hu
  rfl
set_option maxHeartbeats 2000000 in
theorem del_any (st : List Int) (As : Option Addr) (ns cs sb h1 lo hi b0 n : Nat) (Z : List Item) (A : Option Addr) (c : Nat) (w : World) (ho : w.ownsRow b0 38 2 (.slice A Z.length c) Z.length (hsOf Z)) (hp : Pk w lo hi (fun b => (Value.slice A Z.length c).ownBlock = some b) Z) (hz : ∀ z ∈ Z, Sf n (sOf z).1 (sOf z).2)
    (hb : Arr w sb [.slice As ns cs] 22) (hs : Rd w h1 As ns (V st)) (hl : ns ≤ 1048576) (hn : Z.length ≤ 1000) (hsb : sb < b0) (h1b : h1 ≤ b0) :
    Calls Tryz.prog 21 #[.slice A Z.length c, .func (.func 23) #[] #[.pointer (some ⟨sb, 0, none⟩)]] w (DPost st b0 Z (.slice A Z.length c) w) := by
  have HO := Lib.hid ho; have HP := Lib.hid hp; have HZ := Lib.hid hz; have HB := Lib.hid hb; have HS := Lib.hid hs
  clear ho hp hz hb hs
  go_enter Tryz.func21, Tryz.ntmps21
  go_wp2_with fail
  refine (ixf_any st As ns cs sb h1 lo hi b0 n _ Z A c w HO.out HP.out HZ.out HB.out HS.out hl hn).mono ?_
  rintro e w1 ⟨i, hf, rfl, b1⟩
  have B1 := Lib.hid b1
  have s1 := b1.size
  clear b1
  rcases hf with ⟨rfl, hall⟩ | ⟨k0, z0, rfl, hz0, hn0, ha0⟩
  · have EF : Hid (Z.filter (inS st) = Z) := Lib.hid (List.filter_eq_self.2 hall)
    have O1 : Hid (w1.ownsRow b0 38 2 (.slice A Z.length c) Z.length (hsOf Z)) := Lib.hid (own_block_keep HO.out (fun k e => B1.out.block k (HO.out.lt k e).2))
    clear hall
    go_wp2_with fail
    go_ret
    exact ⟨_, rfl, by rw [EF.out]; exact O1.out, rfl, ⟨B1.out.os, B1.out.tape, B1.out.output, B1.out.size, fun k hk _ => B1.out.block k hk⟩⟩
  · have hk0 := (List.getElem?_eq_some_iff.1 hz0).1
    have hO := HO.out.2
    obtain ⟨g, cur0, rfl, hgb, hgw, hgc, hcm, hcz, hct⟩ : ∃ g cur, A = some ⟨g, 0, none⟩ ∧ b0 ≤ g ∧ w.heap[g]? = some (.cells cur 38 (0, 0)) ∧ Z.length ≤ c ∧ c ≤ maxLen ∧ cur.size = c * 2 ∧ cur.toList.take (Z.length * 2) = hsOf Z := by
      rcases hO with ⟨q, q2⟩ | ⟨g, cap, cur, q, x1, x2, x3, x4, x5, x6⟩
      · omega
      · injection q with q1 q2 q3
        subst q3
        exact ⟨g, cur, q1, x1, x2, x3, x4, x5, x6⟩
    have hgs : g < w.heap.size := (Array.getElem?_eq_some_iff.1 hgw).1
    have T0 : Hid (Ti w w1 g c Z st k0 (k0 + 1)) := Lib.hid (by
      have e := filter_fst hz0 hn0 ha0
      refine ⟨⟨cur0, (B1.out.block g hgs).trans hgw, hcz, ?_, fun k q1 q2 => ?_⟩, by rw [e, List.length_take]; omega, fun k q1 _ => B1.out.block k q1, B1.out.os, B1.out.tape, B1.out.output, B1.out.size⟩
      · rw [e, hs_take, ← hct, List.take_take, Nat.min_eq_left (by omega)]
      · rw [← hct, List.getElem?_take_of_lt q2]
        simp)
    have hkn2 : ((k0 : Int) == -1) = false := by simp
    clear hz0 hn0 ha0 hO hct hcz
    go_wp2_with fail
    clear hkn2
    go_loopw [5, 6] (fun iv jv wr => ∃ i j : Nat, iv = .int .i64 i ∧ jv = .int .i64 j ∧ j ≤ Z.length ∧ i < j ∧ Ti w wr g c Z st i j) (fun _ jv _ => Z.length - (intOf jv).toNat)
    case atStart => exact ⟨k0, k0 + 1, rfl, by go_num, hk0, by omega, T0.out⟩
    case round =>
      obtain ⟨i, j, rfl, rfl, hj, hij, ti⟩ := hrel
      have TI := Lib.hid ti; clear ti T0
      by_cases hlt : j < Z.length
      · obtain ⟨z, hz⟩ : ∃ z, Z[j]? = some z := ⟨_, List.getElem?_eq_getElem hlt⟩
        obtain ⟨k1, k2⟩ := TI.out.cells hz
        have PR := HP.out.keep TI.out.size (fun b l h x => TI.out.oth b (by have := HP.out.top; omega) (fun e => x (by rw [e]; rfl)))
        obtain ⟨P, c', Q, d', ep, srd⟩ := PR.srd (List.mem_of_getElem? hz)
        have SFz := HZ.out z (List.mem_of_getElem? hz)
        have hc0 : wr.cell? ⟨g, j * 2, none⟩ = some (.slice P (sOf z).1.length c') := by rw [k1, ep]
        have hc1 : wr.cell? ⟨g, j * 2 + 1, none⟩ = some (.slice Q (sOf z).2.length d') := by rw [k2, ep]
        have SRD := Lib.hid srd; have EP := Lib.hid ep; have ZJ := Lib.hid hz
        have n24 := sfn24 SFz
        have r24 : (sOf z).1.length ≤ 24 := by rw [SFz.lr]; exact n24
        have u24 : (sOf z).2.length ≤ 24 := by rw [SFz.lu]; exact n24
        have IN : Hid (inS st z = decide (strF (sOf z).1 (sOf z).2 = st)) := Lib.hid rfl
        have BH : Below h1 w wr := ⟨TI.out.os, TI.out.tape, TI.out.output, TI.out.size, fun k hk => TI.out.oth k (by omega) (by omega)⟩
        have AB : Hid (Arr wr sb [.slice As ns cs] 22) := Lib.hid ((TI.out.oth sb (by omega) (by omega)).trans HB.out); have RS := Lib.hid (HS.out.keep BH (Nat.le_refl _))
        generalize (sOf z).1 = r at *; generalize (sOf z).2 = u at *
        clear ep srd k1 k2 hz PR SFz BH
        have hwr := TI.out.size
        have ST1 : Hid (∃ W, W = wr.alloc (.cells #[.slice P r.length c', .slice Q u.length d'] 38) ∧ Below wr.heap.size wr W ∧ Arr W wr.heap.size [.slice P r.length c', .slice Q u.length d'] 38) := Lib.hid ⟨_, rfl, (Below.refl _ _).alloc (Nat.le_refl _) _, Arr.new wr _ _ rfl⟩
        go_wp2_with fail
        obtain ⟨w3, eW, b3, ar⟩ := ST1.out
        rw [← eW]
        have AR := Lib.hid ar; have TI3 := Lib.hid (TI.out.keep b3)
        have SR3 := Lib.hid (SRD.out.keep (b3.mono (by have := SRD.out.top; omega)) (Nat.le_refl _))
        have AB3 := Lib.hid (AB.out.keep b3 (by have := AB.out.lt; omega)); have RS3 := Lib.hid (RS.out.keep (b3.mono (by have := HS.out.2.1; omega)) (Nat.le_refl _))
        have s3 := b3.size
        clear eW b3 ar ST1 SRD TI AB RS hc0 hc1
        have c30 := AR.out.cell (k := 0) rfl; have c31 := AR.out.cell (k := 1) rfl
        have hbx := AR.out.lt
        generalize wr.heap.size = bx at *
        refine (pick_any st r u As ns cs sb _ _ _ _ _ SR3.out AB3.out RS3.out (by omega) (by omega) hl).mono ?_
        rintro e w4 ⟨rfl, b4⟩
        rw [← IN.out]
        have AR4 := Lib.hid (AR.out.keep b4 AR.out.lt); have TI4 := Lib.hid (TI3.out.keep b4)
        clear b4 AR TI3 SR3 AB3 RS3 c30 c31
        have c40 := AR4.out.cell (k := 0) rfl; have c41 := AR4.out.cell (k := 1) rfl
        cases hin : inS st z
        · have TN := Lib.hid (TI4.out.skip ZJ.out hin)
          go_wp2_with fail
          go_roundw
          case rel => exact ⟨i, j + 1, rfl, by go_num, by omega, by omega, TN.out⟩
          case measure => simp [intOf]; omega
        · have TN := Lib.hid (TI4.out.put hij hgc ZJ.out hin)
          obtain ⟨x, y, t0, t1, f0, f1⟩ := TI4.out.there (show i < c by omega)
          have hil : i < Z.length := by omega
          have E1 : Hid (z.2.1.1 = .slice P r.length c' ∧ z.2.1.2 = .slice Q u.length d') := Lib.hid (by rw [EP.out]; exact ⟨rfl, rfl⟩)
          go_wp2_with fail
          rw [E1.out.1, E1.out.2] at TN
          go_roundw
          case rel => exact ⟨i + 1, j + 1, by go_num, by go_num, by omega, by omega, TN.out⟩
          case measure => simp [intOf]; omega
      · obtain rfl : j = Z.length := by omega
        have EZ : Z.take Z.length = Z := List.take_of_length_le (Nat.le_refl _)
        obtain ⟨cur, x1, x2, x3, x4⟩ := TI.out.cur
        rw [EZ] at x3
        have XL := TI.out.len
        rw [EZ] at XL
        have zc : ((Value.agg #[.slice none 0 0, .slice none 0 0]).cells).size = 2 := by kernel_rfl
        have hzz : (Tryz.prog.info? 38).map (·.zero) = some (some (.agg #[.slice none 0 0, .slice none 0 0])) := by
          obtain ⟨i0, hi0, hz0, _, _⟩ := info_parts infoS11
          rw [hi0]; simp [hz0]
        obtain ⟨R, hR, hRs, hRt⟩ : ∃ R : Array Value, (∀ ty, (Builtin.clear_ #[23] ty #[.slice (some ⟨g, i * 2, none⟩) (Z.length - i) (c - i)]).run Tryz.prog wr = .ok (.tuple #[]) (wr.setRow g R)) ∧ R.size = c * 2 ∧ R.toList.take (i * 2) = hsOf (Z.filter (inS st)) := by
          refine ⟨_, fun ty => run_clear_w wr 23 38 ty (.agg #[.slice none 0 0, .slice none 0 0]) Tryz.underlying23 hzz zS_one g (i * 2) (Z.length - i) (c - i) (by omega) cur _ x1 (by rw [zc, x2]; omega), ?_, ?_⟩
          · simp [zeroCells_size, zc, x2]
            omega
          · rw [← x3, List.toList_toArray, List.append_assoc, List.take_append_of_le_length (by simp; omega), List.take_take, Nat.min_self]
        obtain ⟨w7, hw7⟩ : ∃ W, W = wr.setRow g R := ⟨_, rfl⟩
        rw [← hw7] at hR
        have FIN : Hid (DPost st b0 Z (.slice (some ⟨g, 0, none⟩) Z.length c) w (.returned (.slice (some ⟨g, 0, none⟩) i c)) w7) := Lib.hid (by
          rw [hw7]
          refine ⟨_, rfl, ?_, rfl, ⟨TI.out.os, TI.out.tape, TI.out.output, by simpa using TI.out.size, fun k hk hne => ?_⟩⟩
          · rw [XL]
            exact ⟨by rw [hs_len, XL], .inr ⟨g, c, R, rfl, hgb, setRow_heap _ _ _ _ _ _ x1, by omega, hcm, hRs, hRt⟩⟩
          · have hkg : k ≠ g := fun e => hne (by rw [e]; rfl)
            exact (setRow_other _ _ _ _ hkg).trans (TI.out.oth k hk hkg))
        have hci : ¬ (c = i) := by omega
        have hil : (i : Int) ≤ (Z.length : Int) := by omega
        clear hw7 x1 x2 x3 x4 XL EZ TI hRs hRt
        go_wp2_with (at_builtin; refine wpList_clear_at _ rfl _ 23 rfl _ rfl (hR _) ?_)
        go_ret
        exact FIN.out
set_option maxHeartbeats 1000000 in
theorem si_impl (a : Int) (A : Option Addr) (m c : Nat) (xs : List Int) (h1 : Nat) (w : World) (hx : Rd w h1 A m (V xs)) (hm : m ≤ 1048576) : Calls Tryz.prog 7 #[.int .i64 a, .slice A m c] w (SWPost a (siF a xs) w) := by
  have HX := Lib.hid hx; clear hx
  have ST : Hid (∃ W, W = w.alloc (.cells #[.slice A m c] 22) ∧ Below w.heap.size w W ∧ W.heap.size = w.heap.size + 1 ∧ Arr W w.heap.size [.slice A m c] 22) := Lib.hid ⟨_, rfl, (Below.refl _ _).alloc (Nat.le_refl _) _, by simp, Arr.new w _ _ rfl⟩
  go_enter Tryz.func7, Tryz.ntmps7
  go_wp2_with fail
  obtain ⟨w1, eW, b1, s1, ar⟩ := ST.out
  rw [← eW]
  clear eW ST
  have hh1 := HX.out.2.1
  refine (sw_impl a w1).mono ?_
  rintro e w2 ⟨v2, rfl, sx⟩
  obtain ⟨Z, ez, oz, pz⟩ := sx.ex
  obtain ⟨A2, c2, rfl⟩ := mem.own_form oz
  have b2 := sx.bel
  have s2 := b2.size
  have AB := Lib.hid (ar.keep b2 ar.lt)
  have HX2 := Lib.hid (HX.out.keep ((b1.trans (b2.mono (by omega))).mono hh1) (Nat.le_refl _))
  have SF : Hid (∀ z ∈ Z, Sf a.toNat (sOf z).1 (sOf z).2) := Lib.hid (fun z hz => sx.sf _ (by rw [← ez]; exact List.mem_map_of_mem hz))
  have EF : Hid ((Z.filter (inS xs)).map sOf = siF a xs) := Lib.hid (by
    unfold siF
    rw [← ez, List.filter_map]
    rfl)
  have NL : Z.length ≤ 1000 := by
    have e1 : Z.length = (swF a).length := by rw [← ez, List.length_map]
    have := swF_len a
    omega
  have PZ := Lib.hid pz; have OZ := Lib.hid oz; have B2 := Lib.hid (b1.trans (b2.mono (by omega)))
  clear ez oz pz b1 b2 sx ar
  go_wp2_with fail
  refine (del_any xs A m c w.heap.size h1 w1.heap.size w2.heap.size w1.heap.size a.toNat Z A2 c2 w2 OZ.out PZ.out SF.out AB.out HX2.out hm NL (by omega) (by omega)).mono ?_
  rintro e w3 ⟨v3, rfl, o3, ob3, g3⟩
  have PF : Hid (SWPost a (siF a xs) w (.returned v3) w3) := Lib.hid (by
    have pf := (PZ.out.filter (inS xs)).keep g3.size (fun b l h x => g3.block b h (fun e => x e.symm))
    refine ⟨v3, rfl, ⟨Z.filter (inS xs), EF.out, ⟨o3.1, o3.2.imp id (fun ⟨g, cap, cur, q1, q2, q3⟩ => ⟨g, cap, cur, q1, by omega, q3⟩)⟩, pf.to (by omega) g3.size (Nat.le_refl _) (fun b l h x e => x (by rw [← ob3]; exact e))⟩, fun y hy => ?_, B2.out.trans ⟨g3.os, g3.tape, g3.output, g3.size, fun k hk => g3.block k (by omega) (fun e => by have := (OZ.out.lt k e.symm).1; omega)⟩⟩
    rw [← EF.out] at hy
    obtain ⟨z, hz, rfl⟩ := List.mem_map.1 hy
    exact SF.out z (List.mem_filter.1 hz).1)
  clear o3 ob3 g3
  go_wp2_with fail
  go_ret
  exact PF.out
end Go.Proofs.YtafpbnjfmieamaaGreat.lst

/-
  SurfacesIn of both, as the laws ask.
-/
namespace Go.Proofs.YtafpbnjfmieamaaGreat.lst
open Go.ChangeShapes Go.WideShapes Go.ChangeAt Go.RowKit
open Go.Proofs.YtafpbnjfmieamaaGreat.mem Go.Proofs.YtafpbnjfmieamaaGreat.ints Go.Proofs.YtafpbnjfmieamaaGreat.arr Go.Proofs.YtafpbnjfmieamaaGreat.pm Go.Proofs.YtafpbnjfmieamaaGreat.sf Go.Proofs.YtafpbnjfmieamaaGreat.gl Go.Proofs.YtafpbnjfmieamaaGreat.orb
set_option linter.unusedVariables false
set_option maxRecDepth 100000

theorem si_specL (a : Int) (A : Option Addr) (n c : Nat) (xs : List Int) (h : Nat) (w : World) (hx : Rd w h A n (V xs)) (hn : n ≤ 1048576) (lo : -9223372036854775808 ≤ a) (hi : a ≤ 9223372036854775807) : Calls Tryz.prog 5 #[.int .i64 a, .slice A n c] w (LPost (siF a xs) w) :=
  (si_spec a A n c xs h w hx hn).mono fun _ _ h => sw_lpost h
theorem si_implL (a : Int) (A : Option Addr) (n c : Nat) (xs : List Int) (h : Nat) (w : World) (hx : Rd w h A n (V xs)) (hn : n ≤ 1048576) (lo : -9223372036854775808 ≤ a) (hi : a ≤ 9223372036854775807) : Calls Tryz.prog 7 #[.int .i64 a, .slice A n c] w (LPost (siF a xs) w) :=
  (si_impl a A n c xs h w hx hn).mono fun _ _ h => sw_lpost h
theorem siF_law (a : Int) (xs : List Int) : (siF a xs).length ≤ 1048576 ∧ mat.tot (flat (siF a xs)) ≤ 1048576 ∧ ∀ s ∈ siF a xs, s.1.length ≤ 1048576 ∧ s.2.length ≤ 1048576 :=
  few_law (n := a.toNat) (fun y hy => swF_sf y (List.mem_filter.1 hy).1) (by
    have h1 := List.length_filter_le (fun x : Sur => decide (strF x.1 x.2 = xs)) (swF a)
    have h2 := swF_len a
    unfold siF
    omega)
end Go.Proofs.YtafpbnjfmieamaaGreat.lst
