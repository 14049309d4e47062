/-
  SurfacesIn of the program.
-/
import Derived.Test.YtafpbnjfmieamaaY22
import Derived.Test.YtafpbnjfmieamaaY25
import Derived.Test.YtafpbnjfmieamaaY27
namespace Go.Proofs.Ytafpbnjfmieamaa.lst
open Go.ChangeShapes Go.WideShapes Go.ChangeAt Go.RowKit
open Go.Proofs.Ytafpbnjfmieamaa.mem Go.Proofs.Ytafpbnjfmieamaa.ints Go.Proofs.Ytafpbnjfmieamaa.arr Go.Proofs.Ytafpbnjfmieamaa.pm Go.Proofs.Ytafpbnjfmieamaa.sf Go.Proofs.Ytafpbnjfmieamaa.gl Go.Proofs.Ytafpbnjfmieamaa.orb
open Go.Proofs.Ytafpbnjfmieamaa.wd
set_option linter.unusedVariables false
set_option maxRecDepth 100000

set_option maxHeartbeats 1000000 in
/-- The closure: it is false exactly where the stratum is the one asked for. -/
theorem pick_any (st r u : List Int) (As : Option Addr) (ns cs sb hi h1 : Nat) (a b : Value) (w : World) (hx : Srd w hi (.agg #[a, b]) r u) (hb : Arr w sb [.slice As ns cs] 23) (hs : Rd w h1 As ns (V st)) (hn : r.length ≤ 1048576) (hm : u.length ≤ 1048576) (hl : ns ≤ 1048576) :
    Calls Try.prog 30 #[.agg #[a, b], .pointer (some ⟨sb, 0, none⟩)] w fun e w' => e = .returned (.bool (!decide (strF r u = st))) ∧ Below w.heap.size w w' := by
  have HX := Lib.hid hx; have HB := Lib.hid hb; have HS := Lib.hid hs
  have hsb := hb.lt
  have E1 : Hid (strF r u = strF r u) := Lib.hid rfl
  clear hx hb hs
  have ST : Hid (∃ W, W = w.alloc (.cells #[a, b] 33) ∧ Below w.heap.size w W ∧ Arr W w.heap.size [a, b] 33) := Lib.hid ⟨_, rfl, (Below.refl _ _).alloc (Nat.le_refl _) _, Arr.new w _ _ rfl⟩
  go_enter Try.func30, Try.ntmps30
  go_wp2_with fail
  obtain ⟨w1, eW, b1, ar⟩ := ST.out
  rw [← eW]
  have B1 := Lib.hid b1; have AR := Lib.hid ar
  clear eW b1 ar ST
  have s1 := B1.out.size
  refine wp_region_held_drew (S := Hld w1.heap.size w1.heap.size w1 [(w.heap.size, [a, b]), (sb, [.slice As ns cs])]) (by kernel_rfl) (Hld.start (fun p hp => by
    rcases List.mem_cons.1 hp with rfl | hp
    · exact ⟨AR.out.lt, fun k v hk => by rw [Nat.zero_add]; exact AR.out.cell hk⟩
    · rcases List.mem_cons.1 hp with rfl | hp
      · exact ⟨by omega, fun k v hk => by rw [Nat.zero_add]; exact (HB.out.keep B1.out hsb).cell hk⟩
      · simp at hp)) (fun hHeld => ?_)
  have b1 : Below w1.heap.size w1 w1.drew := ⟨rfl, rfl, rfl, Nat.le_refl _, fun _ _ => rfl⟩
  have B2 := Lib.hid (B1.out.trans (b1.mono s1))
  have s2 := b1.size
  generalize w1.drew = w2 at *
  clear b1 B1 AR
  refine wpAnyH_take (i := 0) (v := .agg #[a, b]) rfl (by kernel_rfl) (by kernel_rfl) (by kernel_rfl) (fun _ _ _ h => h) (Or.inl ⟨by kernel_rfl, fun w hSw => by have h0 := hSw.fst 0 _ rfl; have h1 := hSw.fst 1 _ rfl; go_simp⟩) hHeld ?_
  refine wpAnyH_take (i := 2) (v := .slice As ns cs) rfl (by kernel_rfl) (by kernel_rfl) (by kernel_rfl) (fun _ _ _ h => h) (Or.inl ⟨by kernel_rfl, fun w hSw => by have h2 := hSw.snd 0 _ rfl; go_simp⟩) hHeld ?_
  refine wpAnyH_ready (rs := [1]) (by kernel_rfl) (by simp) (AllReadyH.cons rfl (fun K hK => ?_) AllReadyH.nil)
  go_simp
  refine (st_impl _ r u _ _ (HX.out.keep (B2.out.mono HX.out.top) (Nat.le_refl _)) hn hm).mono ?_
  rintro e w3 ⟨v3, rfl, o3, b3⟩
  obtain ⟨A3, c3, rfl⟩ := mem.own_form o3
  have R3 := Lib.hid (Row.of_own o3).rd
  have B3 := Lib.hid (B2.out.trans (b3.mono (by omega)))
  have s3 := b3.size
  have hsl : (strF r u).length ≤ 1048576 := strF_len r u
  have EQ : Hid (eqi (strF r u) st = decide (strF r u = st)) := Lib.hid rfl
  clear o3
  generalize hsr : strF r u = sr at *
  have HSR := Lib.hid hsr; clear hsr
  go_wp2_with fail
  have hHeld2 := hHeld.later b3 (Nat.le_refl _)
  clear b3 hHeld B2
  refine hK.out _ _ hHeld2 (fun hHeld => ?_)
  clear hK K hHeld2
  refine wpAnyH_ready (rs := [3]) (by kernel_rfl) (by simp) (AllReadyH.cons rfl (fun K hK => ?_) AllReadyH.nil)
  go_simp
  refine (same.impl_b A3 sr.length c3 sr As ns cs st _ _ _ R3.out (HS.out.keep (B3.out.mono HS.out.2.1) (Nat.le_refl _)) hsl hl).mono ?_
  rintro e w4 ⟨rfl, b4⟩
  rw [EQ.out]
  have B4 := Lib.hid (B3.out.trans (b4.mono (by omega)))
  go_wp2_with fail
  have hHeld2 := hHeld.later b4 (Nat.le_refl _)
  clear b4 hHeld
  refine hK.out _ _ hHeld2 (fun hHeld => ?_)
  clear hK K hHeld2
  refine wpAnyH_take (i := 4) (v := .bool (!decide (sr = st))) rfl (by kernel_rfl) (by kernel_rfl) (by kernel_rfl) (fun _ _ _ h => h) (Or.inl ⟨by kernel_rfl, fun w hSw => by go_simp⟩) hHeld ?_
  refine wpAnyH_take (i := 5) (v := .bool (!decide (sr = st))) rfl (by kernel_rfl) (by kernel_rfl) (by kernel_rfl) (fun _ _ _ h => h) (Or.inl ⟨by kernel_rfl, fun w hSw => by go_simp⟩) hHeld ?_
  refine wpAnyH_done (by kernel_rfl) ?_ _
  clear hHeld
  go_simp
  go_wp2_with fail
  go_ret
  refine ⟨?_, B4.out⟩
  rw [HSR.out]
  rfl
/-- The first item that is not to stay. -/
def Fst (st : List Int) (Z : List Item) (i : Int) : Prop := (i = -1 ∧ ∀ z ∈ Z, inS st z = true) ∨ ∃ (k : Nat) (z : Item), i = (k : Int) ∧ Z[k]? = some z ∧ inS st z = false ∧ ∀ y ∈ Z.take k, inS st y = true
set_option maxHeartbeats 1000000 in
theorem ixf_any (st : List Int) (As : Option Addr) (ns cs sb h1 lo hi b0 n : Nat) (ex : Nat → Prop) (Z : List Item) (A : Option Addr) (c : Nat) (w : World) (ho : w.ownsRow b0 33 2 (.slice A Z.length c) Z.length (hsOf Z)) (hp : Pk w lo hi ex Z) (hz : ∀ z ∈ Z, Sf n (sOf z).1 (sOf z).2)
    (hb : Arr w sb [.slice As ns cs] 23) (hs : Rd w h1 As ns (V st)) (hl : ns ≤ 1048576) (hn : Z.length ≤ 1000) :
    Calls Try.prog 59 #[.slice A Z.length c, .func (.func 30) #[] #[.pointer (some ⟨sb, 0, none⟩)]] w fun e w' => ∃ i : Int, Fst st Z i ∧ e = .returned (.int .i64 i) ∧ Below w.heap.size w w' := by
  have HO := Lib.hid ho; have HP := Lib.hid hp; have HZ := Lib.hid hz; have HB := Lib.hid hb; have HS := Lib.hid hs
  clear ho hp hz hb hs
  go_enter Try.func59, Try.ntmps59
  go_wp2_with fail
  go_loopw [5, 8] (fun _ i wr => ∃ k : Nat, k ≤ Z.length ∧ i = .int .i64 k ∧ Below w.heap.size w wr ∧ Hid (∀ y ∈ Z.take k, inS st y = true)) (fun _ i _ => Z.length - (intOf i).toNat)
  case atStart => exact ⟨0, Nat.zero_le _, rfl, Below.refl _ _, Lib.hid (fun y hy => by simp at hy)⟩
  case round =>
    obtain ⟨k, hk, rfl, bl, HD⟩ := hrel
    have BL := Lib.hid bl; clear bl
    by_cases hlt : k < Z.length
    · obtain ⟨z, hzk⟩ : ∃ z, Z[k]? = some z := ⟨_, List.getElem?_eq_getElem hlt⟩
      obtain ⟨g, off, rfl, hg, q0, q1⟩ := own_at HO.out rfl hzk
      have PR := HP.out.keep BL.out.size (fun b l h _ => BL.out.block b (by have := HP.out.top; omega))
      obtain ⟨P, c', Q, d', ep, srd⟩ := PR.srd (List.mem_of_getElem? hzk)
      have SFz := HZ.out z (List.mem_of_getElem? hzk)
      have hc0 : wr.cell? ⟨g, off + k * 2, none⟩ = some (.slice P (sOf z).1.length c') := by
        rw [BL.out.cell (p := ⟨g, off + k * 2, none⟩) hg, q0, ep]
      have hc1 : wr.cell? ⟨g, off + k * 2 + 1, none⟩ = some (.slice Q (sOf z).2.length d') := by
        rw [BL.out.cell (p := ⟨g, off + k * 2 + 1, none⟩) hg, q1, ep]
      have SRD := Lib.hid srd
      have n24 := sfn24 SFz
      have r24 : (sOf z).1.length ≤ 24 := by rw [SFz.lr]; exact n24
      have u24 : (sOf z).2.length ≤ 24 := by rw [SFz.lu]; exact n24
      have IN : Hid (inS st z = decide (strF (sOf z).1 (sOf z).2 = st)) := Lib.hid rfl
      have ZK := Lib.hid hzk
      have AB := Lib.hid (HB.out.keep BL.out HB.out.lt); have RS := Lib.hid (HS.out.keep (BL.out.mono HS.out.2.1) (Nat.le_refl _))
      generalize (sOf z).1 = r at *; generalize (sOf z).2 = u at *
      clear ep srd q0 q1 hzk PR SFz
      go_wp2_with fail
      refine (pick_any st r u As ns cs sb _ _ _ _ _ SRD.out AB.out RS.out (by omega) (by omega) hl).mono ?_
      rintro e w1 ⟨rfl, b1⟩
      rw [← IN.out]
      have BL1 := Lib.hid (BL.out.trans (b1.mono BL.out.size))
      clear b1 hc0 hc1
      cases hin : inS st z
      · have FF : Hid (Fst st Z (k : Int)) := Lib.hid (.inr ⟨k, z, rfl, ZK.out, hin, HD.out⟩)
        go_wp2_with fail
        go_ret
        exact ⟨_, FF.out, rfl, BL1.out⟩
      · have HD2 : Hid (∀ y ∈ Z.take (k + 1), inS st y = true) := Lib.hid (fun y hy => by
          rw [List.take_add_one, ZK.out] at hy
          rcases List.mem_append.1 hy with q | q
          · exact HD.out y q
          · obtain rfl : y = z := by simpa using q
            exact hin)
        clear HD
        go_wp2_with fail
        go_roundw
        case rel => exact ⟨k + 1, by omega, by go_num, BL1.out, HD2⟩
        case measure => simp [intOf]; omega
    · obtain rfl : k = Z.length := by omega
      have FF : Hid (Fst st Z (-1)) := Lib.hid (.inl ⟨rfl, fun z hz => HD.out z (by rw [List.take_of_length_le (Nat.le_refl _)]; exact hz)⟩)
      clear HD
      go_wp2_with fail
      go_ret
      exact ⟨_, FF.out, rfl, BL.out⟩
/-- What a block of headers holds while it is gone through: the first i items stay, those from j on are as they were. -/
structure Ti (w2 wr : World) (g c : Nat) (Z : List Item) (st : List Int) (i j : Nat) : Prop where
  cur : ∃ cur : Array Value, wr.heap[g]? = some (.cells cur 33 (0, 0)) ∧ cur.size = c * 2 ∧ cur.toList.take (i * 2) = hsOf ((Z.take j).filter (inS st)) ∧ ∀ k, j * 2 ≤ k → k < Z.length * 2 → cur[k]? = (hsOf Z)[k]?
  len : ((Z.take j).filter (inS st)).length = i
  oth : ∀ k, k < w2.heap.size → k ≠ g → wr.heap[k]? = w2.heap[k]?
  os : wr.os = w2.os
  tape : wr.tape = w2.tape
  output : wr.output = w2.output
  size : w2.heap.size ≤ wr.heap.size
theorem Ti.keep {w2 wr w' : World} {g c i j : Nat} {Z : List Item} {st : List Int} (h : Ti w2 wr g c Z st i j) (hb : Below wr.heap.size wr w') : Ti w2 w' g c Z st i j := by
  obtain ⟨cur, h1, h2⟩ := h.cur
  refine ⟨⟨cur, (hb.block g (Array.getElem?_eq_some_iff.1 h1).1).trans h1, h2⟩, h.len, fun k q1 q2 => (hb.block k (Nat.lt_of_lt_of_le q1 h.size)).trans (h.oth k q1 q2), hb.os.trans h.os, hb.tape.trans h.tape, hb.output.trans h.output, Nat.le_trans h.size hb.size⟩
theorem Ti.skip {w2 wr : World} {g c i j : Nat} {Z : List Item} {st : List Int} {z : Item} (h : Ti w2 wr g c Z st i j) (hz : Z[j]? = some z) (hn : inS st z = false) : Ti w2 wr g c Z st i (j + 1) := by
  have e : (Z.take (j + 1)).filter (inS st) = (Z.take j).filter (inS st) := by
    rw [List.take_add_one, hz, List.filter_append]
    simp [hn]
  obtain ⟨cur, h1, h2, h3, h4⟩ := h.cur
  exact ⟨⟨cur, h1, h2, by rw [e]; exact h3, fun k q1 q2 => h4 k (by omega) q2⟩, by rw [e]; exact h.len, h.oth, h.os, h.tape, h.output, h.size⟩
/-- One more stays: its headers are written at place i. -/
theorem Ti.put {w2 wr : World} {g c i j : Nat} {Z : List Item} {st : List Int} {z : Item} (h : Ti w2 wr g c Z st i j) (hij : i < j) (hc : Z.length ≤ c) (hz : Z[j]? = some z) (hn : inS st z = true) :
    Ti w2 ((wr.setCell ⟨g, i * 2, none⟩ z.2.1.1).setCell ⟨g, i * 2 + 1, none⟩ z.2.1.2) g c Z st (i + 1) (j + 1) := by
  have hjl := (List.getElem?_eq_some_iff.1 hz).1
  have e : (Z.take (j + 1)).filter (inS st) = (Z.take j).filter (inS st) ++ [z] := by
    rw [List.take_add_one, hz, List.filter_append]
    simp [hn]
  obtain ⟨cur, h1, h2, h3, h4⟩ := h.cur
  rw [setCell_eq_setRow wr g (i * 2) cur _ _ _ h1]
  have q1 := setRow_heap wr g cur (cur.setIfInBounds (i * 2) z.2.1.1) _ _ h1
  rw [setCell_eq_setRow _ g (i * 2 + 1) _ _ _ _ q1, setRow_setRow]
  refine ⟨⟨_, setRow_heap wr g cur _ _ _ h1, by simp [h2], ?_, fun k q2 q3 => ?_⟩, ?_, fun k q2 q3 => (setRow_other _ _ _ _ q3).trans (h.oth k q2 q3), h.os, h.tape, h.output, by simpa using h.size⟩
  · rw [e, hs_app, ← h3]
    apply List.ext_getElem?
    intro k
    have hl : (cur.toList.take (i * 2)).length = i * 2 := by simp; omega
    rw [List.getElem?_append, hl]
    by_cases c1 : k < i * 2
    · rw [if_pos c1, List.getElem?_take_of_lt (by omega), List.getElem?_take_of_lt c1]
      simp only [Array.toList_setIfInBounds]
      rw [List.getElem?_set_ne (by omega), List.getElem?_set_ne (by omega)]
    · rw [if_neg c1]
      have hcs : cur.toList.length = c * 2 := by simp [h2]
      by_cases c2 : k = i * 2
      · subst c2
        rw [List.getElem?_take_of_lt (by omega)]
        simp only [Array.toList_setIfInBounds]
        rw [List.getElem?_set_ne (by omega), List.getElem?_set_self (by omega), Nat.sub_self]
        rfl
      · by_cases c3 : k = i * 2 + 1
        · subst c3
          rw [List.getElem?_take_of_lt (by omega)]
          simp only [Array.toList_setIfInBounds]
          rw [List.getElem?_set_self (by rw [List.length_set]; omega), show i * 2 + 1 - i * 2 = 1 by omega]
          rfl
        · rw [List.getElem?_eq_none (by simp; omega), List.getElem?_eq_none (by simp [hsOf]; omega)]
  · rw [← h4 k (by omega) q3, Array.getElem?_setIfInBounds, if_neg (by omega), Array.getElem?_setIfInBounds, if_neg (by omega)]
  · rw [e, List.length_append, h.len]
    rfl
theorem Ti.cells {w2 wr : World} {g c i j : Nat} {Z : List Item} {st : List Int} {z : Item} (h : Ti w2 wr g c Z st i j) (hz : Z[j]? = some z) : wr.cell? ⟨g, j * 2, none⟩ = some z.2.1.1 ∧ wr.cell? ⟨g, j * 2 + 1, none⟩ = some z.2.1.2 := by
  have hjl := (List.getElem?_eq_some_iff.1 hz).1
  obtain ⟨cur, h1, h2, h3, h4⟩ := h.cur
  obtain ⟨e1, e2⟩ := hs_at hz
  have k1 := h4 (j * 2) (Nat.le_refl _) (by omega)
  have k2 := h4 (j * 2 + 1) (by omega) (by omega)
  rw [e1] at k1
  rw [e2] at k2
  exact ⟨by simp [World.cell?, h1, k1], by simp [World.cell?, h1, k2]⟩
theorem Ti.there {w2 wr : World} {g c i j : Nat} {Z : List Item} {st : List Int} (h : Ti w2 wr g c Z st i j) (hi : i < c) : ∃ x y, wr.cell? ⟨g, i * 2, none⟩ = some x ∧ wr.cell? ⟨g, i * 2 + 1, none⟩ = some y ∧ wr.frozen? ⟨g, i * 2, none⟩ = false ∧ wr.frozen? ⟨g, i * 2 + 1, none⟩ = false := by
  obtain ⟨cur, h1, h2, h3, h4⟩ := h.cur
  have k1 : i * 2 < cur.size := by omega
  have k2 : i * 2 + 1 < cur.size := by omega
  exact ⟨cur[i * 2], cur[i * 2 + 1], by simp [World.cell?, h1, k1], by simp [World.cell?, h1, k2], by simp [World.frozen?, h1], by simp [World.frozen?, h1]⟩
end Go.Proofs.Ytafpbnjfmieamaa.lst
