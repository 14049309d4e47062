/-
  SurfacesIn of the program: slices.DeleteFunc walked.
-/
import Derived.Test.YtafpbnjfmieamaaWBq
import Derived.Test.YtafpbnjfmieamaaY19
namespace Go.Proofs.Ytafpbnjfmieamaa.lst
open Go.ChangeShapes Go.WideShapes Go.ChangeAt Go.RowKit
open Go.Proofs.Ytafpbnjfmieamaa.mem Go.Proofs.Ytafpbnjfmieamaa.ints Go.Proofs.Ytafpbnjfmieamaa.arr Go.Proofs.Ytafpbnjfmieamaa.pm Go.Proofs.Ytafpbnjfmieamaa.sf Go.Proofs.Ytafpbnjfmieamaa.gl Go.Proofs.Ytafpbnjfmieamaa.orb
open Go.Proofs.Ytafpbnjfmieamaa.wd
set_option linter.unusedVariables false
set_option maxRecDepth 100000

theorem hs_take : ∀ (Z : List Item) (k : Nat), hsOf (Z.take k) = (hsOf Z).take (k * 2)
  | [], k => by simp [hsOf]
  | z :: t, 0 => by simp [hsOf]
  | z :: t, k + 1 => by
    have := hs_take t k
    unfold hsOf at this ⊢
    rw [List.take_succ_cons, List.flatMap_cons, List.flatMap_cons, this, show (k + 1) * 2 = k * 2 + 1 + 1 by omega]
    rfl
theorem filter_fst {st : List Int} {Z : List Item} {k : Nat} {z : Item} (hz : Z[k]? = some z) (hn : inS st z = false) (ha : ∀ y ∈ Z.take k, inS st y = true) : (Z.take (k + 1)).filter (inS st) = Z.take k := by
  rw [List.take_add_one, hz, List.filter_append, List.filter_eq_self.2 ha]
  simp [hn]
/-- What DeleteFunc gives: the row of those that stay; no other block is touched. -/
def DPost (st : List Int) (b0 : Nat) (Z : List Item) (v : Value) (w : World) (e : Ending) (w' : World) : Prop :=
  ∃ v', e = .returned v' ∧ w'.ownsRow b0 33 2 v' (Z.filter (inS st)).length (hsOf (Z.filter (inS st))) ∧ v'.ownBlock = v.ownBlock ∧ w.grownBy w' v.ownBlock
theorem zS_one : ∀ u ∈ (Value.agg #[.slice none 0 0, .slice none 0 0]).cells, u.oneCell' = true := by
  intro u hu
  simp [Value.cells] at hu
  subst hu
  rfl
set_option maxHeartbeats 2000000 in
theorem del_any (st : List Int) (As : Option Addr) (ns cs sb h1 lo hi b0 n : Nat) (Z : List Item) (A : Option Addr) (c : Nat) (w : World) (ho : w.ownsRow b0 33 2 (.slice A Z.length c) Z.length (hsOf Z)) (hp : Pk w lo hi (fun b => (Value.slice A Z.length c).ownBlock = some b) Z) (hz : ∀ z ∈ Z, Sf n (sOf z).1 (sOf z).2)
    (hb : Arr w sb [.slice As ns cs] 23) (hs : Rd w h1 As ns (V st)) (hl : ns ≤ 1048576) (hn : Z.length ≤ 1000) (hsb : sb < b0) (h1b : h1 ≤ b0) :
    Calls Try.prog 29 #[.slice A Z.length c, .func (.func 30) #[] #[.pointer (some ⟨sb, 0, none⟩)]] w (DPost st b0 Z (.slice A Z.length c) w) := by
  have HO := Lib.hid ho; have HP := Lib.hid hp; have HZ := Lib.hid hz; have HB := Lib.hid hb; have HS := Lib.hid hs
  clear ho hp hz hb hs
  go_enter Try.func29, Try.ntmps29
  go_wp2_with fail
  refine (ixf_any st As ns cs sb h1 lo hi b0 n _ Z A c w HO.out HP.out HZ.out HB.out HS.out hl hn).mono ?_
  rintro e w1 ⟨i, hf, rfl, b1⟩
  have B1 := Lib.hid b1
  have s1 := b1.size
  clear b1
  rcases hf with ⟨rfl, hall⟩ | ⟨k0, z0, rfl, hz0, hn0, ha0⟩
  · have EF : Hid (Z.filter (inS st) = Z) := Lib.hid (List.filter_eq_self.2 hall)
    have O1 : Hid (w1.ownsRow b0 33 2 (.slice A Z.length c) Z.length (hsOf Z)) := Lib.hid (own_block_keep HO.out (fun k e => B1.out.block k (HO.out.lt k e).2))
    clear hall
    go_wp2_with fail
    go_ret
    exact ⟨_, rfl, by rw [EF.out]; exact O1.out, rfl, ⟨B1.out.os, B1.out.tape, B1.out.output, B1.out.size, fun k hk _ => B1.out.block k hk⟩⟩
  · have hk0 := (List.getElem?_eq_some_iff.1 hz0).1
    have hO := HO.out.2
    obtain ⟨g, cur0, rfl, hgb, hgw, hgc, hcm, hcz, hct⟩ : ∃ g cur, A = some ⟨g, 0, none⟩ ∧ b0 ≤ g ∧ w.heap[g]? = some (.cells cur 33 (0, 0)) ∧ Z.length ≤ c ∧ c ≤ maxLen ∧ cur.size = c * 2 ∧ cur.toList.take (Z.length * 2) = hsOf Z := by
      rcases hO with ⟨q, q2⟩ | ⟨g, cap, cur, q, x1, x2, x3, x4, x5, x6⟩
      · omega
      · injection q with q1 q2 q3
        subst q3
        exact ⟨g, cur, q1, x1, x2, x3, x4, x5, x6⟩
    have hgs : g < w.heap.size := (Array.getElem?_eq_some_iff.1 hgw).1
    have T0 : Hid (Ti w w1 g c Z st k0 (k0 + 1)) := Lib.hid (by
      have e := filter_fst hz0 hn0 ha0
      refine ⟨⟨cur0, (B1.out.block g hgs).trans hgw, hcz, ?_, fun k q1 q2 => ?_⟩, by rw [e, List.length_take]; omega, fun k q1 _ => B1.out.block k q1, B1.out.os, B1.out.tape, B1.out.output, B1.out.size⟩
      · rw [e, hs_take, ← hct, List.take_take, Nat.min_eq_left (by omega)]
      · rw [← hct, List.getElem?_take_of_lt q2]
        simp)
    have hkn2 : ((k0 : Int) == -1) = false := by simp
    clear hz0 hn0 ha0 hO hct hcz
    go_wp2_with fail
    clear hkn2
    go_loopw [5, 6] (fun iv jv wr => ∃ i j : Nat, iv = .int .i64 i ∧ jv = .int .i64 j ∧ j ≤ Z.length ∧ i < j ∧ Ti w wr g c Z st i j) (fun _ jv _ => Z.length - (intOf jv).toNat)
    case atStart => exact ⟨k0, k0 + 1, rfl, by go_num, hk0, by omega, T0.out⟩
    case round =>
      obtain ⟨i, j, rfl, rfl, hj, hij, ti⟩ := hrel
      have TI := Lib.hid ti; clear ti T0
      by_cases hlt : j < Z.length
      · obtain ⟨z, hz⟩ : ∃ z, Z[j]? = some z := ⟨_, List.getElem?_eq_getElem hlt⟩
        obtain ⟨k1, k2⟩ := TI.out.cells hz
        have PR := HP.out.keep TI.out.size (fun b l h x => TI.out.oth b (by have := HP.out.top; omega) (fun e => x (by rw [e]; rfl)))
        obtain ⟨P, c', Q, d', ep, srd⟩ := PR.srd (List.mem_of_getElem? hz)
        have SFz := HZ.out z (List.mem_of_getElem? hz)
        have hc0 : wr.cell? ⟨g, j * 2, none⟩ = some (.slice P (sOf z).1.length c') := by rw [k1, ep]
        have hc1 : wr.cell? ⟨g, j * 2 + 1, none⟩ = some (.slice Q (sOf z).2.length d') := by rw [k2, ep]
        have SRD := Lib.hid srd; have EP := Lib.hid ep; have ZJ := Lib.hid hz
        have n24 := sfn24 SFz
        have r24 : (sOf z).1.length ≤ 24 := by rw [SFz.lr]; exact n24
        have u24 : (sOf z).2.length ≤ 24 := by rw [SFz.lu]; exact n24
        have IN : Hid (inS st z = decide (strF (sOf z).1 (sOf z).2 = st)) := Lib.hid rfl
        have BH : Below h1 w wr := ⟨TI.out.os, TI.out.tape, TI.out.output, TI.out.size, fun k hk => TI.out.oth k (by omega) (by omega)⟩
        have AB : Hid (Arr wr sb [.slice As ns cs] 23) := Lib.hid ((TI.out.oth sb (by omega) (by omega)).trans HB.out); have RS := Lib.hid (HS.out.keep BH (Nat.le_refl _))
        generalize (sOf z).1 = r at *; generalize (sOf z).2 = u at *
        clear ep srd k1 k2 hz PR SFz BH
        have hwr := TI.out.size
        have ST1 : Hid (∃ W, W = wr.alloc (.cells #[.slice P r.length c', .slice Q u.length d'] 33) ∧ Below wr.heap.size wr W ∧ Arr W wr.heap.size [.slice P r.length c', .slice Q u.length d'] 33) := Lib.hid ⟨_, rfl, (Below.refl _ _).alloc (Nat.le_refl _) _, Arr.new wr _ _ rfl⟩
        go_wp2_with fail
        obtain ⟨w3, eW, b3, ar⟩ := ST1.out
        rw [← eW]
        have AR := Lib.hid ar; have TI3 := Lib.hid (TI.out.keep b3)
        have SR3 := Lib.hid (SRD.out.keep (b3.mono (by have := SRD.out.top; omega)) (Nat.le_refl _))
        have AB3 := Lib.hid (AB.out.keep b3 (by have := AB.out.lt; omega)); have RS3 := Lib.hid (RS.out.keep (b3.mono (by have := HS.out.2.1; omega)) (Nat.le_refl _))
        have s3 := b3.size
        clear eW b3 ar ST1 SRD TI AB RS hc0 hc1
        have c30 := AR.out.cell (k := 0) rfl; have c31 := AR.out.cell (k := 1) rfl
        have hbx := AR.out.lt
        generalize wr.heap.size = bx at *
        refine (pick_any st r u As ns cs sb _ _ _ _ _ SR3.out AB3.out RS3.out (by omega) (by omega) hl).mono ?_
        rintro e w4 ⟨rfl, b4⟩
        rw [← IN.out]
        have AR4 := Lib.hid (AR.out.keep b4 AR.out.lt); have TI4 := Lib.hid (TI3.out.keep b4)
        clear b4 AR TI3 SR3 AB3 RS3 c30 c31
        have c40 := AR4.out.cell (k := 0) rfl; have c41 := AR4.out.cell (k := 1) rfl
        cases hin : inS st z
        · have TN := Lib.hid (TI4.out.skip ZJ.out hin)
          go_wp2_with fail
          go_roundw
          case rel => exact ⟨i, j + 1, rfl, by go_num, by omega, by omega, TN.out⟩
          case measure => simp [intOf]; omega
        · have TN := Lib.hid (TI4.out.put hij hgc ZJ.out hin)
          obtain ⟨x, y, t0, t1, f0, f1⟩ := TI4.out.there (show i < c by omega)
          have hil : i < Z.length := by omega
          have E1 : Hid (z.2.1.1 = .slice P r.length c' ∧ z.2.1.2 = .slice Q u.length d') := Lib.hid (by rw [EP.out]; exact ⟨rfl, rfl⟩)
          go_wp2_with fail
          rw [E1.out.1, E1.out.2] at TN
          go_roundw
          case rel => exact ⟨i + 1, j + 1, by go_num, by go_num, by omega, by omega, TN.out⟩
          case measure => simp [intOf]; omega
      · obtain rfl : j = Z.length := by omega
        have EZ : Z.take Z.length = Z := List.take_of_length_le (Nat.le_refl _)
        obtain ⟨cur, x1, x2, x3, x4⟩ := TI.out.cur
        rw [EZ] at x3
        have XL := TI.out.len
        rw [EZ] at XL
        have zc : ((Value.agg #[.slice none 0 0, .slice none 0 0]).cells).size = 2 := by kernel_rfl
        have hzz : (Try.prog.info? 33).map (·.zero) = some (some (.agg #[.slice none 0 0, .slice none 0 0])) := by
          obtain ⟨i0, hi0, hz0, _, _⟩ := info_parts infoS11
          rw [hi0]; simp [hz0]
        obtain ⟨R, hR, hRs, hRt⟩ : ∃ R : Array Value, (∀ ty, (Builtin.clear_ #[25] ty #[.slice (some ⟨g, i * 2, none⟩) (Z.length - i) (c - i)]).run Try.prog wr = .ok (.tuple #[]) (wr.setRow g R)) ∧ R.size = c * 2 ∧ R.toList.take (i * 2) = hsOf (Z.filter (inS st)) := by
          refine ⟨_, fun ty => run_clear_w wr 25 33 ty (.agg #[.slice none 0 0, .slice none 0 0]) Try.underlying25 hzz zS_one g (i * 2) (Z.length - i) (c - i) (by omega) cur _ x1 (by rw [zc, x2]; omega), ?_, ?_⟩
          · simp [zeroCells_size, zc, x2]
            omega
          · rw [← x3, List.toList_toArray, List.append_assoc, List.take_append_of_le_length (by simp; omega), List.take_take, Nat.min_self]
        obtain ⟨w7, hw7⟩ : ∃ W, W = wr.setRow g R := ⟨_, rfl⟩
        rw [← hw7] at hR
        have FIN : Hid (DPost st b0 Z (.slice (some ⟨g, 0, none⟩) Z.length c) w (.returned (.slice (some ⟨g, 0, none⟩) i c)) w7) := Lib.hid (by
          rw [hw7]
          refine ⟨_, rfl, ?_, rfl, ⟨TI.out.os, TI.out.tape, TI.out.output, by simpa using TI.out.size, fun k hk hne => ?_⟩⟩
          · rw [XL]
            exact ⟨by rw [hs_len, XL], .inr ⟨g, c, R, rfl, hgb, setRow_heap _ _ _ _ _ _ x1, by omega, hcm, hRs, hRt⟩⟩
          · have hkg : k ≠ g := fun e => hne (by rw [e]; rfl)
            exact (setRow_other _ _ _ _ hkg).trans (TI.out.oth k hk hkg))
        have hci : ¬ (c = i) := by omega
        have hil : (i : Int) ≤ (Z.length : Int) := by omega
        clear hw7 x1 x2 x3 x4 XL EZ TI hRs hRt
        go_wp2_with (at_builtin; refine wpList_clear_at _ rfl _ 25 rfl _ rfl (hR _) ?_)
        go_ret
        exact FIN.out
set_option maxHeartbeats 1000000 in
theorem si_impl (a : Int) (A : Option Addr) (m c : Nat) (xs : List Int) (h1 : Nat) (w : World) (hx : Rd w h1 A m (V xs)) (hm : m ≤ 1048576) : Calls Try.prog 10 #[.int .i64 a, .slice A m c] w (SWPost a (siF a xs) w) := by
  have HX := Lib.hid hx; clear hx
  have ST : Hid (∃ W, W = w.alloc (.cells #[.slice A m c] 23) ∧ Below w.heap.size w W ∧ W.heap.size = w.heap.size + 1 ∧ Arr W w.heap.size [.slice A m c] 23) := Lib.hid ⟨_, rfl, (Below.refl _ _).alloc (Nat.le_refl _) _, by simp, Arr.new w _ _ rfl⟩
  go_enter Try.func10, Try.ntmps10
  go_wp2_with fail
  obtain ⟨w1, eW, b1, s1, ar⟩ := ST.out
  rw [← eW]
  clear eW ST
  have hh1 := HX.out.2.1
  refine (sw_impl a w1).mono ?_
  rintro e w2 ⟨v2, rfl, sx⟩
  obtain ⟨Z, ez, oz, pz⟩ := sx.ex
  obtain ⟨A2, c2, rfl⟩ := mem.own_form oz
  have b2 := sx.bel
  have s2 := b2.size
  have AB := Lib.hid (ar.keep b2 ar.lt)
  have HX2 := Lib.hid (HX.out.keep ((b1.trans (b2.mono (by omega))).mono hh1) (Nat.le_refl _))
  have SF : Hid (∀ z ∈ Z, Sf a.toNat (sOf z).1 (sOf z).2) := Lib.hid (fun z hz => sx.sf _ (by rw [← ez]; exact List.mem_map_of_mem hz))
  have EF : Hid ((Z.filter (inS xs)).map sOf = siF a xs) := Lib.hid (by
    unfold siF
    rw [← ez, List.filter_map]
    rfl)
  have NL : Z.length ≤ 1000 := by
    have e1 : Z.length = (swF a).length := by rw [← ez, List.length_map]
    have := swF_len a
    omega
  have PZ := Lib.hid pz; have OZ := Lib.hid oz; have B2 := Lib.hid (b1.trans (b2.mono (by omega)))
  clear ez oz pz b1 b2 sx ar
  go_wp2_with fail
  refine (del_any xs A m c w.heap.size h1 w1.heap.size w2.heap.size w1.heap.size a.toNat Z A2 c2 w2 OZ.out PZ.out SF.out AB.out HX2.out hm NL (by omega) (by omega)).mono ?_
  rintro e w3 ⟨v3, rfl, o3, ob3, g3⟩
  have PF : Hid (SWPost a (siF a xs) w (.returned v3) w3) := Lib.hid (by
    have pf := (PZ.out.filter (inS xs)).keep g3.size (fun b l h x => g3.block b h (fun e => x e.symm))
    refine ⟨v3, rfl, ⟨Z.filter (inS xs), EF.out, ⟨o3.1, o3.2.imp id (fun ⟨g, cap, cur, q1, q2, q3⟩ => ⟨g, cap, cur, q1, by omega, q3⟩)⟩, pf.to (by omega) g3.size (Nat.le_refl _) (fun b l h x e => x (by rw [← ob3]; exact e))⟩, fun y hy => ?_, B2.out.trans ⟨g3.os, g3.tape, g3.output, g3.size, fun k hk => g3.block k (by omega) (fun e => by have := (OZ.out.lt k e.symm).1; omega)⟩⟩
    rw [← EF.out] at hy
    obtain ⟨z, hz, rfl⟩ := List.mem_map.1 hy
    exact SF.out z (List.mem_filter.1 hz).1)
  clear o3 ob3 g3
  go_wp2_with fail
  go_ret
  exact PF.out
end Go.Proofs.Ytafpbnjfmieamaa.lst
