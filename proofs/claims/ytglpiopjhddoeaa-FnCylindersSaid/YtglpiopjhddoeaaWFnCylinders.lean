/-
  FnCylinders: at every argument the law FnCylinders returns true, and its arguments read as before. No condition.
-/
import Derived.Test.YtglpiopjhddoeaaRows
import Derived.WalkKit
import Derived.ProofKit
import Derived.OpenShut
import Derived.ShutString
import Derived.ChangeOld
import Derived.Below
import Derived.Test.YtglpiopjhddoeaaWME
import Derived.Test.YtglpiopjhddoeaaWTh
import Derived.Test.YtglpiopjhddoeaaWKq
import Derived.Test.YtglpiopjhddoeaaY19
import Derived.Test.YtglpiopjhddoeaaWOpenB
namespace Go.Proofs.Ytglpiopjhddoeaa.fnCylinders
open Go.ChangeShapes Go.WideShapes Go.ChangeAt Go.RowKit
open Go.ChangeMaps (open_string shut_string)
open Go.Proofs.Ytglpiopjhddoeaa.mem Go.Proofs.Ytglpiopjhddoeaa.ints Go.Proofs.Ytglpiopjhddoeaa.arr Go.Proofs.Ytglpiopjhddoeaa.sf Go.Proofs.Ytglpiopjhddoeaa.pm Go.Proofs.Ytglpiopjhddoeaa.permOk Go.Proofs.Ytglpiopjhddoeaa.fns Go.Proofs.Ytglpiopjhddoeaa.mat Go.Proofs.Ytglpiopjhddoeaa.gl Go.Proofs.Ytglpiopjhddoeaa.cur Go.Proofs.Ytglpiopjhddoeaa.cy
set_option linter.unusedVariables false
set_option maxRecDepth 100000

theorem own : ownKnob Try.prog.godebug = none := by kernel_rfl
theorem laidOut : laidOutB Try.prog = true := by kernel_rfl

set_option maxRecDepth 100000 in
set_option maxHeartbeats 4000000 in
theorem walk (w : World) (A : Option Addr) (n c : Nat) (l : List Int) (rd : Rd w w.heap.size A n (U l)) (cn : n ≤ c) (cm : c ≤ maxLen) (el : Bytes l) :
    Calls Try.prog 3 #[.slice A n c] w fun e w' => e = .returned (.bool true) ∧ Below w.heap.size w w' := by
  have RD := Lib.hid rd; have EL := Lib.hid el; clear rd el
  unfold maxLen at cm
  by_cases b0 : 1048576 < n
  · clear RD EL
    go_enter Try.func3, Try.ntmps3
    go_wp2_with fail
    go_ret
    exact ⟨rfl, Below.refl _ _⟩
  have hd0 : decide (1048576 < (n : Int)) = false := by simp; omega
  have HC := Lib.hid (cur.Code.mk RD.out EL.out (by omega)); clear RD EL
  go_enter Try.func3, Try.ntmps3
  go_wp2_with fail
  refine (mk.make_any _ _ A n c l HC.out).mono ?_
  rintro e w1 ⟨v, r, u, N, hN, sf, rfl, sv, b1⟩
  have SFs := Lib.hid sf; clear sf
  obtain ⟨Ps, cs, Qs, ds, rfl⟩ := sv.lens SFs.out.lr SFs.out.lu
  have HT : Hid (transB r u = true) := Lib.hid (transB_iff.2 (by rw [SFs.out.lr]; exact SFs.out))
  have FC := Lib.hid (fc_ok HT.out)
  have LR : Hid (r.length = N) := Lib.hid SFs.out.lr
  have ROW := Lib.hid (rowF_yes HT.out)
  have SV := Lib.hid sv
  have BB := Lib.hid b1
  have s1 := b1.size
  clear sv b1 HC
  go_wp2_with (refine wpList_store_row rfl 25 _ _ rfl w1.heap.size #[.slice Ps N cs, .slice Qs N ds] rfl rfl 25 #[.slice none 0 0, .slice none 0 0] (Arr.new w1 [.slice none 0 0, .slice none 0 0] _ rfl) size2 rfl (by simp [Value.oneCell']) ?_; generalize hw : (w1.alloc (.cells #[.slice none 0 0, .slice none 0 0] 25)).setRow w1.heap.size #[.slice Ps N cs, .slice Qs N ds] = w2; have BX : Hid (Arr w2 w1.heap.size [.slice Ps N cs, .slice Qs N ds] 25) := Lib.hid (by rw [← hw]; exact (Arr.new w1 [.slice none 0 0, .slice none 0 0] _ rfl).row); have b1 : Below w1.heap.size w1 w2 := (by rw [← hw]; exact below_setRow ((Below.refl _ _).alloc (Nat.le_refl _) _) (Nat.le_refl _) _); have t2 : w1.heap.size + 1 ≤ w2.heap.size := (by rw [← hw]; simp); clear hw; replace SV := Lib.hid (SV.out.keep b1 (Nat.le_refl _)); replace BB := Lib.hid (BB.out.trans (b1.mono s1)); clear b1; have x0 := BX.out.cell (k := 0) rfl; have x1 := BX.out.cell (k := 1) rfl)
  refine (cyo_impl _ r u _ _ SV.out.rd (by rw [SFs.out.lr]; omega) (by rw [SFs.out.lu]; omega)).mono ?_
  rintro e w3 ⟨CA, cca, rfl, oL, b1⟩
  rw [HT.out]
  have s3 := b1.size
  replace SV := Lib.hid (SV.out.keep b1 SV.out.top)
  replace BX := Lib.hid (BX.out.keep b1 BX.out.lt)
  replace BB := Lib.hid (BB.out.trans (b1.mono BB.out.size))
  have OL := Lib.hid oL
  clear oL b1 x0 x1
  have x0 := BX.out.cell (k := 0) rfl; have x1 := BX.out.cell (k := 1) rfl
  go_wp2_with fail
  refine (ro_impl _ r u _ _ SV.out.rd (by rw [SFs.out.lr]; omega) (by rw [SFs.out.lu]; omega)).mono ?_
  rw [ROW.out]
  rintro e w4 ⟨RA, cra, rfl, oM, b1⟩
  have s4 := b1.size
  replace SV := Lib.hid (SV.out.keep b1 SV.out.top)
  replace BX := Lib.hid (BX.out.keep b1 BX.out.lt)
  replace OL := Lib.hid (OL.out.keep b1 OL.out.top)
  replace BB := Lib.hid (BB.out.trans (b1.mono BB.out.size))
  have OM := Lib.hid oM
  have AL : Hid (∀ (k j : Nat) (xs ys : List Int), (cycF r)[k]? = some xs → (cycF r)[j]? = some ys → raF r u (xs.getD 0 0) ∈ ys → ys.length = xs.length) := Lib.hid (fun k j xs ys a b c => above_len HT.out a b c)
  clear oM b1 x0 x1 ROW
  have TB : Hid (tot (cycF r) ≤ 1048576) := Lib.hid (cycF_small r).2
  have HAR := Lib.hid FC.out.area
  rw [LR.out] at HAR
  generalize cyF r u = L at *
  generalize cycF r = rr at *
  have fc1 := FC.out.pos; have fc2 := FC.out.le; have fc3 := FC.out.small
  generalize hNL : L.length = NL at *
  generalize hM : rr.length = M at *
  have LNL := Lib.hid hNL; have LM := Lib.hid hM
  clear hNL hM
  have x0 := BX.out.cell (k := 0) rfl; have x1 := BX.out.cell (k := 1) rfl
  go_wp2_with fail
  refine wp_region_held_drew (S := fun W => Below w4.heap.size w4 W) (by kernel_rfl) ⟨rfl, rfl, rfl, Nat.le_refl _, fun _ _ => rfl⟩ (fun hHeld => ?_)
  have BD : Hid (Below w.heap.size w w4.drew) := Lib.hid (BB.out.trans (hHeld.mono BB.out.size))
  have OLD := Lib.hid (OL.out.keep hHeld OL.out.top)
  have XC : Hid (∀ W, Below w4.heap.size w4 W → W.cell? ⟨w1.heap.size, 0, none⟩ = some (.slice Ps N cs)) := Lib.hid (fun W h => by rw [h.cell (p := ⟨w1.heap.size, 0, none⟩) BX.out.lt]; exact x0)
  generalize w4.drew = w5 at *
  clear x0 x1
  refine wpAnyH_take (i := 0) (v := .bool true) rfl (by kernel_rfl) (by kernel_rfl) (by kernel_rfl) (fun _ _ _ h => h) (Or.inl ⟨by kernel_rfl, fun w hSw => by go_simp⟩) hHeld ?_
  refine wpAnyH_take (i := 1) (v := .bool false) rfl (by kernel_rfl) (by kernel_rfl) (by kernel_rfl) (fun _ _ _ h => h) (Or.inl ⟨by kernel_rfl, fun w hSw => by go_simp⟩) hHeld ?_
  refine wpAnyH_take (i := 2) (v := .bool false) rfl (by kernel_rfl) (by kernel_rfl) (by kernel_rfl) (fun _ _ _ h => h) (Or.inl ⟨by kernel_rfl, fun w hSw => by go_simp⟩) hHeld ?_
  refine wpAnyH_take (i := 3) (v := .slice CA NL cca) rfl (by kernel_rfl) (by kernel_rfl) (by kernel_rfl) (fun _ _ _ h => h) (Or.inl ⟨by kernel_rfl, fun w hSw => by go_simp⟩) hHeld ?_
  refine wpAnyH_take (i := 5) (v := .pointer (some ⟨w1.heap.size, 0, none⟩)) rfl (by kernel_rfl) (by kernel_rfl) (by kernel_rfl) (fun _ _ _ h => h) (Or.inl ⟨by kernel_rfl, fun w hSw => by go_simp⟩) hHeld ?_
  refine wpAnyH_take (i := 6) (v := .slice Ps N cs) rfl (by kernel_rfl) (by kernel_rfl) (by kernel_rfl) (fun _ _ _ h => h) (Or.inl ⟨by kernel_rfl, fun w hSw => by have := XC.out w hSw; go_simp⟩) hHeld ?_
  refine wpAnyH_take (i := 7) (v := .int .i64 (N : Int)) rfl (by kernel_rfl) (by kernel_rfl) (by kernel_rfl) (fun _ _ _ h => h) (Or.inl ⟨by kernel_rfl, fun w hSw => by go_simp⟩) hHeld ?_
  refine wpAnyH_ready (rs := [4]) (by kernel_rfl) (by simp) (AllReadyH.cons rfl (fun K' hK => ?_) AllReadyH.nil)
  go_simp
  refine (area_impl CA NL cca L _ _ OLD.out.rd (by omega)).mono ?_
  rintro e w6 ⟨rfl, b1⟩
  rw [HAR.out]
  have hHeld2 : Below w4.heap.size w4 w6 := hHeld.trans (b1.mono hHeld.size)
  have BE : Hid (Below w.heap.size w w6) := Lib.hid (BD.out.trans (b1.mono BD.out.size))
  clear b1 hHeld BD OLD
  go_wp2_with fail
  refine hK.out _ _ hHeld2 (fun hHeld => ?_)
  clear hK K' hHeld2
  have hz1 : ((N : Int) != (N : Int)) = false := by simp
  have hz2 : ((NL : Int) == 0) = false := by simp; omega
  have hz3 : decide ((M : Int) < (NL : Int)) = false := by simp; omega
  refine wpAnyH_take (i := 8) (v := .bool false) rfl (by kernel_rfl) (by kernel_rfl) (by kernel_rfl) (fun _ _ _ h => h) (Or.inl ⟨by kernel_rfl, fun w hSw => by go_simp⟩) hHeld ?_
  refine wpAnyH_take (i := 9) (v := .bool false) rfl (by kernel_rfl) (by kernel_rfl) (by kernel_rfl) (fun _ _ _ h => h) (Or.inl ⟨by kernel_rfl, fun w hSw => by go_simp⟩) hHeld ?_
  refine wpAnyH_take (i := 10) (v := .bool false) rfl (by kernel_rfl) (by kernel_rfl) (by kernel_rfl) (fun _ _ _ h => h) (Or.inl ⟨by kernel_rfl, fun w hSw => by go_simp⟩) hHeld ?_
  refine wpAnyH_take (i := 11) (v := .slice CA NL cca) rfl (by kernel_rfl) (by kernel_rfl) (by kernel_rfl) (fun _ _ _ h => h) (Or.inl ⟨by kernel_rfl, fun w hSw => by go_simp⟩) hHeld ?_
  refine wpAnyH_take (i := 12) (v := .int .i64 (NL : Int)) rfl (by kernel_rfl) (by kernel_rfl) (by kernel_rfl) (fun _ _ _ h => h) (Or.inl ⟨by kernel_rfl, fun w hSw => by go_simp⟩) hHeld ?_
  refine wpAnyH_take (i := 13) (v := .bool false) rfl (by kernel_rfl) (by kernel_rfl) (by kernel_rfl) (fun _ _ _ h => h) (Or.inl ⟨by kernel_rfl, fun w hSw => by go_simp⟩) hHeld ?_
  refine wpAnyH_take (i := 14) (v := .bool false) rfl (by kernel_rfl) (by kernel_rfl) (by kernel_rfl) (fun _ _ _ h => h) (Or.inl ⟨by kernel_rfl, fun w hSw => by go_simp⟩) hHeld ?_
  refine wpAnyH_take (i := 15) (v := .bool false) rfl (by kernel_rfl) (by kernel_rfl) (by kernel_rfl) (fun _ _ _ h => h) (Or.inl ⟨by kernel_rfl, fun w hSw => by go_simp⟩) hHeld ?_
  refine wpAnyH_take (i := 16) (v := .slice CA NL cca) rfl (by kernel_rfl) (by kernel_rfl) (by kernel_rfl) (fun _ _ _ h => h) (Or.inl ⟨by kernel_rfl, fun w hSw => by go_simp⟩) hHeld ?_
  refine wpAnyH_take (i := 17) (v := .int .i64 (NL : Int)) rfl (by kernel_rfl) (by kernel_rfl) (by kernel_rfl) (fun _ _ _ h => h) (Or.inl ⟨by kernel_rfl, fun w hSw => by go_simp⟩) hHeld ?_
  refine wpAnyH_take (i := 18) (v := .slice RA M cra) rfl (by kernel_rfl) (by kernel_rfl) (by kernel_rfl) (fun _ _ _ h => h) (Or.inl ⟨by kernel_rfl, fun w hSw => by go_simp⟩) hHeld ?_
  refine wpAnyH_take (i := 19) (v := .int .i64 (M : Int)) rfl (by kernel_rfl) (by kernel_rfl) (by kernel_rfl) (fun _ _ _ h => h) (Or.inl ⟨by kernel_rfl, fun w hSw => by go_simp⟩) hHeld ?_
  refine wpAnyH_take (i := 20) (v := .bool false) rfl (by kernel_rfl) (by kernel_rfl) (by kernel_rfl) (fun _ _ _ h => h) (Or.inl ⟨by kernel_rfl, fun w hSw => by go_simp⟩) hHeld ?_
  refine wpAnyH_take (i := 21) (v := .bool false) rfl (by kernel_rfl) (by kernel_rfl) (by kernel_rfl) (fun _ _ _ h => h) (Or.inl ⟨by kernel_rfl, fun w hSw => by go_simp⟩) hHeld ?_
  refine wpAnyH_done (by kernel_rfl) ?_ _
  have hb6 : Below w4.heap.size w4 w6 := hHeld
  have s6 := hb6.size
  replace SV := Lib.hid (SV.out.keep hb6 SV.out.top)
  replace BX := Lib.hid (BX.out.keep hb6 BX.out.lt)
  replace OL := Lib.hid (OL.out.keep hb6 OL.out.top)
  replace OM := Lib.hid (OM.out.keep hb6 OM.out.2.1)
  clear hb6 hHeld XC BB hz1 hz2 hz3
  dsimp only [List.getElem_toArray, List.getElem_cons_zero, List.getElem_cons_succ]
  go_simp
  go_wp2
  go_loopw [7, 51] (fun hv i wr => ∃ k : Nat, k ≤ NL ∧ i = .int .i64 k ∧ hv = .int .i64 (hS (L.take k)) ∧ Below w6.heap.size w6 wr) (fun _ i _ => NL - (intOf i).toNat)
  case atStart => exact ⟨0, Nat.zero_le _, rfl, by simp [hS], Below.refl _ _⟩
  case round =>
    obtain ⟨k, hk, rfl, rfl, hbl⟩ := hrel
    have BL := Lib.hid hbl; clear hbl
    have hsz := BL.out.size
    obtain ⟨t0, t1⟩ := hS_take FC.out.each k
    by_cases hlt : k < NL
    · obtain ⟨g, off, x, rfl, hg, hsk, c0, c1⟩ := (OL.out.rd.keep BL.out OL.out.top).at_ hlt
      have RX := Lib.hid (two_cells c0 c1)
      have NX := Lib.hid (hS_next hsk)
      obtain ⟨e1, e2, e3, e4⟩ := FC.out.each x (List.mem_of_getElem? hsk)
      obtain ⟨xa, xb⟩ := x
      dsimp only at e1 e2 e3 e4
      clear hsk c0 c1
      generalize hS (L.take k) = hh at *
      go_wp2_with (refine wpList_load_mid rfl 34 _ rfl g (off + k * 2) rfl [.int .i64 xa, .int .i64 xb] _ RX.out Try.underlying34 rfl (sizeCy _ _) ?_)
      go_roundw
      case rel => exact ⟨k + 1, by omega, by go_num, by rw [NX.out], BL.out.alloc hsz _⟩
      case measure => simp [intOf]; omega
    · obtain rfl : NL = k := by omega
      have HH : Hid (hS (L.take NL) = M) := Lib.hid (by rw [List.take_of_length_le (by rw [LNL.out]; exact Nat.le_refl _), FC.out.high, LM.out])
      rw [HH.out]
      have SV7 := Lib.hid (SV.out.keep BL.out SV.out.top)
      have BX7 := Lib.hid (BX.out.keep BL.out BX.out.lt)
      have OM7 := Lib.hid (OM.out.keep BL.out OM.out.2.1)
      have BB7 := Lib.hid (BE.out.trans (BL.out.mono BE.out.size))
      have hX7 := BX7.out.lt
      clear SV BX OM BE BL OL t0 t1
      obtain ⟨w7, rfl⟩ : ∃ w7 : World, w7 = wr := ⟨_, rfl⟩
      go_wp2
      go_loopw [62] (fun i wr => ∃ k : Nat, k ≤ M ∧ i = .int .i64 k ∧ Below w7.heap.size w7 wr) (fun i _ => M - (intOf i).toNat)
      case atStart => exact ⟨0, Nat.zero_le _, rfl, Below.refl _ _⟩
      case round =>
        obtain ⟨k, hk, rfl, hbl⟩ := hrel
        have BL := Lib.hid hbl; clear hbl
        have hsz := BL.out.size
        by_cases hlt : k < M
        · obtain ⟨xs, hxk⟩ : ∃ xs, rr[k]? = some xs := ⟨_, List.getElem?_eq_getElem (by rw [LM.out]; exact hlt)⟩
          obtain ⟨G, off, A1, c1, rfl, hcx, rx⟩ := Mat.in_ (OM7.out.keep BL.out OM7.out.2.1) hxk
          obtain ⟨hpos, _⟩ := FC.out.sw.rw.head hxk
          have xl : xs.length ≤ 1048576 := by have := tot_row hxk; have := TB.out; omega
          obtain ⟨gx, ox, vx, rfl, _, hgx, hvx, hcv, _⟩ := rx.at_ hpos
          rw [V_get (get_D hpos)] at hvx
          obtain rfl := Option.some.inj hvx
          rw [Nat.add_zero] at hcv
          have rng := FC.out.sw.rw.rng hxk (FC.out.sw.rw.head hxk).2
          have n24 := FC.out.sw.sf.small
          have AK : Hid (∀ (j : Nat) (ys : List Int), rr[j]? = some ys → raF r u (xs.getD 0 0) ∈ ys → ys.length = xs.length) := Lib.hid (fun j ys a b => AL.out k j xs ys hxk a b)
          have hgw : gx < wr.heap.size := Nat.lt_of_lt_of_le hgx rx.2.1
          have VC : Hid (∀ W, Below wr.heap.size wr W → W.cell? ⟨gx, ox, none⟩ = some (.int .i64 (xs.getD 0 0))) := Lib.hid (fun W h => by rw [h.cell (p := ⟨gx, ox, none⟩) hgw]; exact hcv)
          have hb0 : ((xs.length : Int) == 0) = false := by have := hpos; simp only [beq_eq_false_iff_ne, ne_eq]; omega
          have BXw := Lib.hid (BX7.out.keep BL.out hX7)
          have hXw : w1.heap.size < wr.heap.size := BXw.out.lt
          have XS : Hid (∀ W, Below wr.heap.size wr W → W.rangeAt w1.heap.size 0 [.slice Ps N cs, .slice Qs N ds]) := Lib.hid (fun W h j v hv => by rw [Nat.zero_add, h.cell (p := ⟨w1.heap.size, j, none⟩) hXw]; exact BXw.out.cell hv)
          clear hxk rx hcv
          generalize xs.getD 0 0 = f at *
          go_wp2
          refine wp_region_held_drew (S := fun W => Below wr.heap.size wr W) (by kernel_rfl) ⟨rfl, rfl, rfl, Nat.le_refl _, fun _ _ => rfl⟩ (fun hHeld => ?_)
          have BD : Hid (Below w7.heap.size w7 wr.drew) := Lib.hid (BL.out.trans (hHeld.mono hsz))
          generalize wr.drew = w8 at *
          have SV8 := Lib.hid (SV7.out.keep BD.out SV7.out.top)
          refine wpAnyH_take (i := 0) (v := .agg #[.slice Ps N cs, .slice Qs N ds]) rfl (by kernel_rfl) (by kernel_rfl) (by kernel_rfl) (fun _ _ _ h => h) (yieldsIf_load_mid (by rfl) _ _ rfl w1.heap.size 0 rfl [.slice Ps N cs, .slice Qs N ds] _ (fun w h => XS.out w h) Try.underlying25 rfl (sizeS _ _)) hHeld ?_
          refine wpAnyH_take (i := 1) (v := .slice (some ⟨gx, ox, none⟩) xs.length c1) rfl (by kernel_rfl) (by kernel_rfl) (by kernel_rfl) (fun _ _ _ h => h) (Or.inl ⟨by kernel_rfl, fun w hSw => by go_simp⟩) hHeld ?_
          refine wpAnyH_take (i := 2) (v := .pointer (some ⟨gx, ox, none⟩)) rfl (by kernel_rfl) (by kernel_rfl) (by kernel_rfl) (fun _ _ _ h => h) (Or.inl ⟨by kernel_rfl, fun w hSw => by go_simp⟩) hHeld ?_
          refine wpAnyH_take (i := 3) (v := .int .i64 f) rfl (by kernel_rfl) (by kernel_rfl) (by kernel_rfl) (fun _ _ _ h => h) (Or.inl ⟨by kernel_rfl, fun w hSw => by have := VC.out w hSw; go_simp⟩) hHeld ?_
          refine wpAnyH_ready (rs := [4]) (by kernel_rfl) (by simp) (AllReadyH.cons rfl (fun K' hK => ?_) AllReadyH.nil)
          go_simp
          refine (ra_impl _ r u f _ _ SV8.out.rd (by rw [SFs.out.lr]; omega) (by rw [SFs.out.lu]; omega) (by omega) (by omega)).mono ?_
          rintro e w9 ⟨rfl, b1⟩
          have hHeld2 : Below wr.heap.size wr w9 := hHeld.trans (b1.mono hHeld.size)
          replace BD := Lib.hid (BD.out.trans (b1.mono BD.out.size))
          clear b1 hHeld SV8 VC XS
          go_wp2_with fail
          refine hK.out _ _ hHeld2 (fun hHeld => ?_)
          clear hK K' hHeld2
          refine wpAnyH_ready (rs := [5]) (by kernel_rfl) (by simp) (AllReadyH.cons rfl (fun K' hK => ?_) AllReadyH.nil)
          go_simp
          refine hK.out _ _ hHeld (fun hHeld2 => ?_)
          clear hK K' hHeld2 hHeld
          refine wpAnyH_done (by kernel_rfl) ?_ _
          generalize raF r u f = ab at *
          obtain ⟨wi, rfl⟩ : ∃ wi : World, wi = w9 := ⟨_, rfl⟩
          go_wp2
          go_loopw [76] (fun i wr => ∃ j : Nat, j ≤ M ∧ i = .int .i64 j ∧ Below w7.heap.size w7 wr) (fun i _ => M - (intOf i).toNat)
          case atStart => exact ⟨0, Nat.zero_le _, rfl, BD.out⟩
          case round =>
            obtain ⟨j, hj, rfl, hbl⟩ := hrel
            have BJ := Lib.hid hbl; clear hbl BD
            have hsj := BJ.out.size
            by_cases hjl : j < M
            · obtain ⟨ys, hyj⟩ : ∃ ys, rr[j]? = some ys := ⟨_, List.getElem?_eq_getElem (by rw [LM.out]; exact hjl)⟩
              obtain ⟨G2, off2, A2, c2, e2, hcy, ry⟩ := Mat.in_ (OM7.out.keep BJ.out OM7.out.2.1) hyj
              injection e2 with e2; injection e2 with e2 e3; subst e2; subst e3
              have yl : ys.length ≤ 1048576 := by have := tot_row hyj; have := TB.out; omega
              have RY := Lib.hid ry
              have AY : Hid (ab ∈ ys → ys.length = xs.length) := Lib.hid (fun h => AK.out j ys hyj h)
              clear hyj ry
              go_wp2_with fail
              refine (th.has_any A2 ys.length c2 ys ab _ _ RY.out.rd yl).mono ?_
              rintro e w10 ⟨rfl, b1⟩
              replace BJ := Lib.hid (BJ.out.trans (b1.mono hsj))
              clear b1 hcy
              cases hin : decide (ab ∈ ys)
              · go_wp2_with fail
                go_roundw
                case rel => exact ⟨j + 1, by omega, by go_num, BJ.out⟩
                case measure => simp [intOf]; omega
              · have hyx : ys.length = xs.length := AY.out (by simpa using hin)
                have hbq : ((ys.length : Int) != (xs.length : Int)) = false := by simp [hyx]
                clear hyx
                go_wp2_with fail
                go_roundw
                case rel => exact ⟨j + 1, by omega, by go_num, BJ.out⟩
                case measure => simp [intOf]; omega
            · go_wp2
              go_roundw
              case rel => exact ⟨k + 1, by omega, by go_num, BJ.out⟩
              case measure => simp [intOf]; omega
        · have hbM : ((M : Int) == (M : Int)) = true := by simp
          go_wp2
          go_ret
          exact ⟨rfl, BB7.out.trans (BL.out.mono BB7.out.size)⟩

set_option maxRecDepth 100000 in
theorem lifted (os : Os) (started : os.Started) (H : Type) (enc : TypeId × Value → H) :
    ReturnsInHanded {} Try.checked os 3 .any (Rows.fnCylindersSpec.pre6 enc Try.prog Try.f3 Rows.fnCylindersRow.domain false) (Rows.fnCylindersSpec.post enc Try.prog Try.f3 false true false false) := by
  refine returnsInHanded_of_change (C := Try.checked) own started (by kernel_rfl) Try.func3
    (ChangeSpec.witness6 (enc := enc) (C := Try.checked) false ⟨#[], #[.slice none 0 0], []⟩ 8 (by kernel_rfl) (by kernel_rfl) (by kernel_rfl) (by kernel_rfl)) ?_
  intro W base args ds gs before hval0 hW hcnd _
  have hval : ∀ (j : Nat) t v, Try.f3.params[j]? = some t → args[j]? = some v → Value.okWide Try.prog W .any base t v := hval0
  have hW' := hW
  obtain ⟨p, q, hA0, hV, rfl, hfz, hnd⟩ := hW
  have hA : DataW.TrodAll enc Try.prog W 0 (fun _ => true) true Try.f3.params.toList args.toList ds p := hA0
  rw [Try.params3] at hA hval
  obtain ⟨v0, vs0, d0, ds0, p0, q0, hargs, rfl, rfl, h0, r0⟩ := trodAll_cons hA
  obtain ⟨rfl, rfl, rfl⟩ := trodAll_nil r0
  obtain rfl : args = #[v0] := by cases args; simp_all
  obtain ⟨rfl, rfl⟩ := trodVars_none hV
  obtain ⟨A0, n0, c0, rfl⟩ := okWide_slice Try.underlying22 (hval 0 22 v0 rfl rfl)
  have lt0 : ∀ x ∈ p0, x.block < W.heap.size := by obtain ⟨m, hm⟩ := h0; exact DataW.trod_lt m _ _ _ hm
  obtain ⟨x0, rd0, cn0, cm0, el0⟩ := open_B Try.underlying22 Try.underlying5 (by kernel_rfl) h0
  clear hA0 hval0
  refine (walk (w := W) A0 n0 c0 x0 rd0 cn0 cm0 el0).mono fun e W' ⟨he, bel⟩ => ?_
  subst he
  exact ⟨_, rfl, _, _, _, [], _, [], hW', trodAll_mk1 (shut_bool Try.underlying4 _), (trodAll_cons_mk (Below.trod laidOut (by kernel_rfl) (of_decide_eq_true (by kernel_rfl)) h0 bel lt0) trodAll_mk0), rfl, bel.frame _, fun h => by cases h⟩

theorem over : Rows.fnCylindersRow.holds Try.pinned (OpenSpec.ofChange Rows.fnCylindersSpec) :=
  OpenClaim.holds_of_wide 3 Try.f3 rfl rfl rfl rfl rfl rfl rfl ⟨rfl, rfl, rfl, rfl, rfl⟩ rfl rfl rfl rfl rfl (by kernel_rfl) Try.func3 (by kernel_rfl)
    (of_decide_eq_true (by kernel_rfl)) (by unfold Func.isWrapper; first | (rw [if_pos (by decide +kernel)]; kernel_rfl) | (rw [if_neg (by decide +kernel)]; exact ⟨rfl, rfl⟩))
    (fun os started H enc _ => lifted os started H enc)

theorem proved : Rows.FnCylindersSaid :=
  over
#print axioms proved
end Go.Proofs.Ytglpiopjhddoeaa.fnCylinders
