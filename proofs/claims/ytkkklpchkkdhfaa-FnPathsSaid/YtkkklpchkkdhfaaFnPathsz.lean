/-
  FnPaths: at every argument the law FnPaths returns true, and its arguments read as before. No condition.
-/
import Derived.Test.YtkkklpchkkdhfaaRows
import Derived.WalkKit
import Derived.ProofKit
import Derived.OpenShut
import Derived.ShutString
import Derived.ChangeOld
import Derived.Below
import Derived.Test.YtkkklpchkkdhfaaY16
import Derived.Test.YtkkklpchkkdhfaaY13
import Derived.Test.YtkkklpchkkdhfaaY17
import Derived.Test.YtkkklpchkkdhfaaY20
import Derived.Test.YtkkklpchkkdhfaaY07
namespace Go.Proofs.Ytkkklpchkkdhfaa.fnPaths
open Go.ChangeShapes Go.WideShapes Go.ChangeAt Go.RowKit
open Go.ChangeMaps (open_string shut_string)
open Go.Proofs.Ytkkklpchkkdhfaa.mem Go.Proofs.Ytkkklpchkkdhfaa.ints Go.Proofs.Ytkkklpchkkdhfaa.arr Go.Proofs.Ytkkklpchkkdhfaa.sf Go.Proofs.Ytkkklpchkkdhfaa.pm Go.Proofs.Ytkkklpchkkdhfaa.cur Go.Proofs.Ytkkklpchkkdhfaa.dr Go.Proofs.Ytkkklpchkkdhfaa.pth
set_option linter.unusedVariables false
set_option maxRecDepth 100000

theorem own : ownKnob Try.prog.godebug = none := by kernel_rfl
theorem laidOut : laidOutB Try.prog = true := by kernel_rfl

set_option maxRecDepth 100000 in
set_option maxHeartbeats 16000000 in
theorem walk (w : World) (A : Option Addr) (n c : Nat) (l : List Int) (rd : Rd w w.heap.size A n (U l)) (cn : n ≤ c) (cm : c ≤ maxLen) (el : Bytes l) :
    Calls Try.prog 4 #[.slice A n c] w fun e w' => e = .returned (.bool true) ∧ Below w.heap.size w w' := by
  have RD := Lib.hid rd; have EL := Lib.hid el; clear rd el
  unfold maxLen at cm
  by_cases b0 : 1048576 < n
  · clear RD EL
    go_enter Try.func4, Try.ntmps4
    go_wp2_with fail
    go_ret
    exact ⟨rfl, Below.refl _ _⟩
  have hd0 : decide (1048576 < (n : Int)) = false := by simp; omega
  have HC := Lib.hid (cur.Code.mk RD.out EL.out (by omega)); clear RD EL
  have BB := Lib.hid (Below.refl w.heap.size w)
  go_enter Try.func4, Try.ntmps4
  go_wp2_with fail
  refine (mk.make_any _ _ A n c l (HC.out.keep BB.out (Nat.le_refl _))).mono ?_
  rintro e w1_ ⟨v, r, u, N, hN, sf, rfl, sv, b1⟩
  have SFs := Lib.hid sf; clear sf
  have N1 : 1 ≤ N := SFs.out.pos
  have N24 : N ≤ 24 := by have := SFs.out.r.len; rw [SFs.out.lr] at this; exact this
  obtain ⟨Ps, cs, Qs, ds, rfl⟩ := sv.lens SFs.out.lr SFs.out.lu
  have s1 := b1.size
  replace BB := Lib.hid (BB.out.trans (b1.mono BB.out.size))
  have Vs := Lib.hid sv; clear sv b1
  have ST1 : Hid (∃ W, W = w1_.alloc (.cells #[.slice Ps N cs, .slice Qs N ds] 32) ∧ Below w1_.heap.size w1_ W ∧ Arr W w1_.heap.size [.slice Ps N cs, .slice Qs N ds] 32) := Lib.hid ⟨_, rfl, (Below.refl _ _).alloc (Nat.le_refl _) _, Arr.new w1_ _ _ rfl⟩
  go_wp2_with fail
  obtain ⟨w2_, eW, b1, a1⟩ := ST1.out
  rw [← eW]
  have s2 := b1.size
  have Bs := Lib.hid a1
  have hbs := a1.lt
  replace Vs := Lib.hid (Vs.out.keep b1 Vs.out.top)
  replace BB := Lib.hid (BB.out.trans (b1.mono BB.out.size))
  clear a1 b1 eW ST1
  generalize hbx : w1_.heap.size = bx at *
  refine (ms_k 40 (by omega) _ w.heap.size A n c l (HC.out.keep BB.out (Nat.le_refl _))).mono ?_
  rintro e w3_ ⟨a, b, rfl, a6, b5, hsl, b1⟩
  have s3 := b1.size
  replace Vs := Lib.hid (Vs.out.keep b1 Vs.out.top)
  replace Bs := Lib.hid (Bs.out.keep b1 Bs.out.lt)
  replace BB := Lib.hid (BB.out.trans (b1.mono BB.out.size))
  clear b1
  have HSL := Lib.hid hsl; clear hsl
  have Bs_0 := Bs.out.cell (k := 0) rfl
  have Bs_1 := Bs.out.cell (k := 1) rfl
  go_wp2_with fail
  refine wp_region_held_drew (S := fun W => Below w3_.heap.size w3_ W) (by kernel_rfl) ⟨rfl, rfl, rfl, Nat.le_refl _, fun _ _ => rfl⟩ (fun hHeld => ?_)
  have LD : ∀ W, Below w3_.heap.size w3_ W → W.cell? ⟨bx, 0, none⟩ = some (.slice Ps N cs) := fun W h => by rw [h.cell (p := ⟨bx, 0, none⟩) Bs.out.lt]; exact Bs_0
  have b1 : Below w3_.heap.size w3_ w3_.drew := hHeld
  have HC4 := Lib.hid (HC.out.keep (BB.out.trans (b1.mono BB.out.size)) (Nat.le_refl _))
  have s4 := b1.size
  clear b1
  generalize w3_.drew = w4_ at *
  refine wpAnyH_take (i := 0) (v := .slice A n c) rfl (by kernel_rfl) (by kernel_rfl) (by kernel_rfl) (fun _ _ _ h => h) (Or.inl ⟨by kernel_rfl, fun w hSw => by go_simp⟩) hHeld ?_
  refine wpAnyH_take (i := 2) (v := .pointer (some ⟨bx, 0, none⟩)) rfl (by kernel_rfl) (by kernel_rfl) (by kernel_rfl) (fun _ _ _ h => h) (Or.inl ⟨by kernel_rfl, fun w hSw => by go_simp⟩) hHeld ?_
  refine wpAnyH_take (i := 3) (v := .slice Ps N cs) rfl (by kernel_rfl) (by kernel_rfl) (by kernel_rfl) (fun _ _ _ h => h) (Or.inl ⟨by kernel_rfl, fun w hSw => by have := LD w hSw; go_simp⟩) hHeld ?_
  refine wpAnyH_take (i := 4) (v := .int .i64 N) rfl (by kernel_rfl) (by kernel_rfl) (by kernel_rfl) (fun _ _ _ h => h) (Or.inl ⟨by kernel_rfl, fun w hSw => by go_simp⟩) hHeld ?_
  refine wpAnyH_ready (rs := [1]) (by kernel_rfl) (by simp) (AllReadyH.cons rfl (fun K' hK => ?_) AllReadyH.nil)
  go_simp
  refine (num_any _ _ A n c l 60 (by omega) HC4.out).mono ?_
  rintro e w5_ ⟨y, y0, y1, rfl, b1⟩
  have hHeld2 : Below w3_.heap.size w3_ w5_ := hHeld.trans (b1.mono s4)
  have s5 := hHeld2.size
  have b5' := hHeld2
  clear b1 hHeld HC4 HC
  go_wp2_with fail
  refine hK.out _ _ hHeld2 (fun hHeld => ?_)
  clear hK K' hHeld2
  obtain ⟨z, hz⟩ := Int.eq_ofNat_of_zero_le (show 0 ≤ y.tmod (N : Int) by rw [Int.tmod_eq_emod_of_nonneg y0]; exact Int.emod_nonneg _ (by omega))
  have hzN : z < N := by have := Int.emod_lt_of_pos y (show 0 < (N : Int) by omega); rw [← Int.tmod_eq_emod_of_nonneg y0, hz] at this; omega
  have hwz : IntKind.i64.wrap (y.tmod (N : Int)) = (z : Int) := by rw [hz]; exact IntWalk.i64_in _ (by omega)
  have hN0 : ¬ N = 0 := by omega
  refine wpAnyH_take (i := 5) (v := .int .i64 z) rfl (by kernel_rfl) (by kernel_rfl) (by kernel_rfl) (fun _ _ _ h => h) (Or.inl ⟨by kernel_rfl, fun w hSw => by go_simp⟩) hHeld ?_
  refine wpAnyH_take (i := 6) (v := .int .i64 z) rfl (by kernel_rfl) (by kernel_rfl) (by kernel_rfl) (fun _ _ _ h => h) (Or.inl ⟨by kernel_rfl, fun w hSw => by go_simp⟩) hHeld ?_
  refine wpAnyH_done (by kernel_rfl) ?_ _
  clear hz y0 y1 hwz LD Bs_0 Bs_1 hHeld
  replace Vs := Lib.hid (Vs.out.keep b5' Vs.out.top)
  replace Bs := Lib.hid (Bs.out.keep b5' Bs.out.lt)
  replace BB := Lib.hid (BB.out.trans (b5'.mono BB.out.size))
  clear b5'
  have ab1 : 1 ≤ a + b := by obtain ⟨_, _, e1, e2, _, h, _⟩ := sl_nat HSL.out; omega
  have rlen := SFs.out.lr; have ulen := SFs.out.lu
  have OQ : okQ r u z a b = true := by
    have ht : transB r u = true := transB_iff.2 (by rw [rlen]; exact SFs.out)
    rw [okQ_4 ht (by omega) (by rw [rlen]; omega)]; exact HSL.out
  have HQ := Lib.hid OQ
  have PT := Lib.hid (pth_ok OQ ab1)
  have TX : Hid (ptF r u z a b = wd (rpL (swL a b) (rdF r u z a b))) := Lib.hid (by unfold ptF; rw [if_pos OQ]; rfl)
  have VF : Hid (viF r u z a b = vsK N (psF r u z a b)) := Lib.hid (by unfold viF; rw [if_pos OQ, rlen])
  clear OQ
  have Bs_0 := Bs.out.cell (k := 0) rfl
  have Bs_1 := Bs.out.cell (k := 1) rfl
  go_wp2_with fail
  refine (ps_impl _ r u z a b _ _ Vs.out.rd (by omega) (by omega) (by omega) (by omega) (by omega) (by omega) (by omega) (by omega)).mono ?_
  rintro e w6_ ⟨LA, lc, rfl, ol, b1⟩
  rw [HQ.out]
  have s6 := b1.size
  replace Vs := Lib.hid (Vs.out.keep b1 Vs.out.top)
  replace Bs := Lib.hid (Bs.out.keep b1 Bs.out.lt)
  replace BB := Lib.hid (BB.out.trans (b1.mono BB.out.size))
  clear b1 Bs_0 Bs_1
  have Bs_0 := Bs.out.cell (k := 0) rfl; have Bs_1 := Bs.out.cell (k := 1) rfl
  have OL := Lib.hid (Row.of_own ol).rd; clear ol
  go_wp2_with fail
  refine (pr_impl _ r u z a b _ _ Vs.out.rd (by omega) (by omega) (by omega) (by omega) (by omega) (by omega) (by omega) (by omega)).mono ?_
  rintro e w7_ ⟨rfl, b1⟩
  have s7 := b1.size
  replace Vs := Lib.hid (Vs.out.keep b1 Vs.out.top)
  replace Bs := Lib.hid (Bs.out.keep b1 Bs.out.lt)
  replace OL := Lib.hid (OL.out.keep (b1.mono OL.out.2.1) (Nat.le_refl _))
  replace BB := Lib.hid (BB.out.trans (b1.mono BB.out.size))
  clear b1 Bs_0 Bs_1
  have Bs_0 := Bs.out.cell (k := 0) rfl; have Bs_1 := Bs.out.cell (k := 1) rfl
  go_wp2_with fail
  refine (pt_impl _ r u z a b _ _ Vs.out.rd (by omega) (by omega) (by omega) (by omega) (by omega) (by omega) (by omega) (by omega)).mono ?_
  rintro e w8_ ⟨rfl, b1⟩
  rw [TX.out]
  have s8 := b1.size
  replace Vs := Lib.hid (Vs.out.keep b1 Vs.out.top)
  replace Bs := Lib.hid (Bs.out.keep b1 Bs.out.lt)
  replace OL := Lib.hid (OL.out.keep (b1.mono OL.out.2.1) (Nat.le_refl _))
  replace BB := Lib.hid (BB.out.trans (b1.mono BB.out.size))
  clear b1 Bs_0 Bs_1
  have Bs_0 := Bs.out.cell (k := 0) rfl; have Bs_1 := Bs.out.cell (k := 1) rfl
  go_wp2_with fail
  refine (vi_impl _ r u z a b _ _ Vs.out.rd (by omega) (by omega) (by omega) (by omega) (by omega) (by omega) (by omega) (by omega)).mono ?_
  rintro e w9_ ⟨vv, rfl, ov, b1⟩
  rw [VF.out] at ov
  have s9 := b1.size
  replace Vs := Lib.hid (Vs.out.keep b1 Vs.out.top)
  replace Bs := Lib.hid (Bs.out.keep b1 Bs.out.lt)
  replace OL := Lib.hid (OL.out.keep (b1.mono OL.out.2.1) (Nat.le_refl _))
  replace BB := Lib.hid (BB.out.trans (b1.mono BB.out.size))
  clear b1 Bs_0 Bs_1 TX VF HQ
  have Bs_0 := Bs.out.cell (k := 0) rfl; have Bs_1 := Bs.out.cell (k := 1) rfl
  have VK := Lib.hid (vs_ok N (psF r u z a b) (fun x hx => by have := PT.out.inn x hx; rw [rlen] at this; exact this))
  generalize psF r u (z : Int) (a : Int) (b : Int) = ls at *
  generalize rdF r u (z : Int) (a : Int) (b : Int) = K at *
  generalize hWW : rpL (swL a b) K = W at *
  generalize vsK N ls = vs at *
  obtain ⟨VA, vc, rfl⟩ := mem.own_form ov
  have RL := OL; have RV := Lib.hid (Row.of_own ov).rd
  have K1 := PT.out.k1; have KN : K ≤ N := by have := PT.out.kn; rw [rlen] at this; exact this
  have lsl := PT.out.len; have wsl := PT.out.wl
  have vl := VK.out.1
  rw [vl] at RV
  have hKm : K * (a + b) ≤ 264 := Nat.le_trans (Nat.mul_le_mul (by omega : K ≤ 24) (by omega : a + b ≤ 11)) (by omega)
  have hKm1 : 1 ≤ K * (a + b) := Nat.mul_pos K1 ab1
  obtain ⟨gl, offl, rfl, hgl, CL⟩ := rd_ix RL.out rfl (by omega)
  obtain ⟨gv, offv, rfl, hgv, CV⟩ := rd_ix (n := N) RV.out vl (by omega)
  have hl0 : ls.getD 0 0 = (z : Int) := by rw [List.getD_eq_getElem?_getD, PT.out.first]; rfl
  have cl0 := CL 0 (by omega)
  rw [hl0, Nat.add_zero] at cl0
  have hlb : ls.length ≤ 264 := by rw [lsl]; exact hKm
  have hlb1 : 1 ≤ ls.length := by rw [lsl]; exact hKm1
  have wk : wrap64 ((K : Int) * ((a : Int) + (b : Int))) = (ls.length : Int) := by
    rw [← Int.natCast_add, ← Int.natCast_mul, ← lsl]; clear hKm hKm1 lsl wsl; exact IntWalk.wrap64_in _ ⟨by omega, by omega⟩
  have wdl : (wd W).size = ls.length := by show W.toArray.size = _; simp [wsl, lsl]
  have f1 : decide ((K : Int) < 1) = false := by simp; omega
  have f2 : decide ((N : Int) < (K : Int)) = false := by simp; omega
  have f3 : ((ls.length : Int) != (ls.length : Int)) = false := by simp
  have CLh := Lib.hid CL; have CVh := Lib.hid CV; have LSL := Lib.hid lsl; have WSL := Lib.hid wsl
  have TS : Hid (∀ k, 0 ≤ (vs.take k).sum ∧ (vs.take k).sum ≤ 1000) := Lib.hid fun k => by
    have h := sum_take vs VK.out.2.2.1 k; have h2 := VK.out.2.1; clear wk lsl wsl hKm hKm1 f1 f2 f3; omega
  have VSS := Lib.hid VK.out.2.1
  have WK := Lib.hid wk; have hl0h := Lib.hid hl0
  clear CL CV lsl wsl hl0 wk hKm hKm1
  go_wp2_with fail
  all_goals try exact absurd WK.out.symm (by assumption)
  rename (ls.length : Int) = wrap64 _ => hq_
  clear hq_ WK
  have f2' : ∀ inst : Decidable (N < K), @decide (N < K) inst = false := fun inst => decide_eq_false (Nat.not_lt.2 KN)
  simp only [f2']
  clear f2'
  refine (th.total_any _ _ _ vs _ _ RV.out (by omega) TS.out).mono ?_
  rintro e w10_ ⟨rfl, b1⟩
  rw [VSS.out]
  have s10 := b1.size
  replace Vs := Lib.hid (Vs.out.keep b1 Vs.out.top)
  replace Bs := Lib.hid (Bs.out.keep b1 Bs.out.lt)
  replace OL := Lib.hid (OL.out.keep (b1.mono OL.out.2.1) (Nat.le_refl _))
  replace RV := Lib.hid (RV.out.keep (b1.mono RV.out.2.1) (Nat.le_refl _))
  replace BB := Lib.hid (BB.out.trans (b1.mono BB.out.size))
  clear b1 Bs_0 Bs_1 cl0 CLh CVh
  have Bs_0 := Bs.out.cell (k := 0) rfl; have Bs_1 := Bs.out.cell (k := 1) rfl
  obtain ⟨gl', offl', el', hgl', CL⟩ := rd_ix OL.out rfl (by omega)
  obtain ⟨gv', offv', ev', hgv', CV⟩ := rd_ix RV.out vl (by omega)
  cases el'; cases ev'
  have cl0 := CL 0 (by omega)
  rw [hl0h.out, Nat.add_zero] at cl0
  have CLh := Lib.hid CL; have CVh := Lib.hid CV; clear CL CV
  have RR : ∃ gr offr gu offu, Ps = some ⟨gr, offr, none⟩ ∧ Qs = some ⟨gu, offu, none⟩ ∧ (∀ x : Nat, x < N → w10_.cell? ⟨gr, offr + x, none⟩ = some (.int .i64 (r.getD x 0))) ∧ (∀ x : Nat, x < N → w10_.cell? ⟨gu, offu + x, none⟩ = some (.int .i64 (u.getD x 0))) := by
    obtain ⟨P', n', c', Q', m', d', l1, h1, l2, h2, e, ra, rb, _⟩ := Vs.out
    simp at e
    obtain ⟨⟨rfl, rfl, rfl⟩, rfl, rfl, rfl⟩ := e
    obtain ⟨gr, offr, e1, _, CR⟩ := rd_ix ra.rd rlen (by omega)
    obtain ⟨gu, offu, e2, _, CU⟩ := rd_ix rb.rd ulen (by omega)
    exact ⟨gr, offr, gu, offu, e1, e2, CR, CU⟩
  obtain ⟨gr, offr, gu, offu, rfl, rfl, CR, CU⟩ := RR
  have CRh := Lib.hid CR; have CUh := Lib.hid CU; clear CR CU
  obtain ⟨S, hS⟩ : ∃ S, S = wd W := ⟨_, rfl⟩
  rw [← hS] at wdl
  have SWh : Hid (∀ (t : Nat) (h : t < S.size) (h' : t < W.length), S[t] = W[t]) := Lib.hid (by subst hS; intro t h h'; exact wd_get h h')
  rw [← hS]
  clear hS
  go_wp2_with fail
  go_loopw [108] (fun i wr => ∃ k : Nat, k ≤ ls.length ∧ i = .int .i64 k ∧ wr = w10_) (fun i _ => ls.length - (intOf i).toNat)
  case atStart => exact ⟨0, Nat.zero_le _, rfl, rfl⟩
  case round =>
    obtain ⟨k, hk, rfl, rfl⟩ := hrel
    by_cases hlt : k < ls.length
    · have hW : k < W.length := by rw [WSL.out, ← LSL.out]; exact hlt
      have stp := PT.out.step k _ _ (List.getElem?_eq_getElem hlt) (List.getElem?_eq_getElem hW)
      rw [← LSL.out] at stp
      have inn := PT.out.inn _ (List.getElem_mem hlt)
      have vge := VK.out.2.2.2 _ (List.getElem_mem hlt)
      have cx := CLh.out k hlt
      rw [show ls.getD k 0 = ls[k] by rw [List.getD_eq_getElem?_getD, List.getElem?_eq_getElem hlt]; rfl] at cx
      obtain ⟨X, hX⟩ := Int.eq_ofNat_of_zero_le inn.1
      rw [hX] at cx stp vge
      have hXN : X < N := by have := inn.2; rw [rlen, hX] at this; omega
      clear inn hX
      rw [Int.toNat_natCast] at vge
      have hq0 : (0 : Int) ≤ ((k : Int) + 1) % (ls.length : Int) := Int.emod_nonneg _ (by omega)
      have hq1 : ((k : Int) + 1) % (ls.length : Int) < ls.length := Int.emod_lt_of_pos _ (by omega)
      have cj := CLh.out ((k + 1) % ls.length) (Nat.mod_lt _ (by omega))
      rw [show ls.getD ((k + 1) % ls.length) 0 = stW r u W[k] (X : Int) by rw [List.getD_eq_getElem?_getD, stp]; rfl] at cj
      have cv := CVh.out X hXN
      have dv : decide (vs.getD X 0 < 1) = false := by simp only [decide_eq_false_iff_not]; omega
      have dx : decide ((N : Int) ≤ (X : Int)) = false := by simp; omega
      have dx' : ∀ inst : Decidable (N ≤ X), @decide (N ≤ X) inst = false := fun inst => decide_eq_false (Nat.not_le.2 hXN)
      have dx0 : ∀ inst : Decidable ((X : Int) < 0), @decide ((X : Int) < 0) inst = false := fun inst => decide_eq_false (Int.not_lt.2 (Int.natCast_nonneg X))
      have hks : k < S.size := by omega
      have hsw := SWh.out k hks hW
      have hl0' : ¬ ls.length = 0 := by omega
      clear stp vge
      by_cases h1 : S[k].toNat = 114
      · have h2 : W[k] = 114 := by rw [← hsw]; exact UInt8.toNat_inj.1 h1
        have cr := CRh.out X hXN
        rw [h2, show stW r u 114 (X : Int) = r.getD X 0 from rfl] at cj
        clear h2 hsw
        generalize r.getD X 0 = Y at *
        generalize vs.getD X 0 = vX at *
        go_wp2_with fail
        exact ⟨⟨k + 1, hlt, by go_num, trivial⟩, by clear hq0 hq1; first | (simp [intOf]; done) | (simp [intOf]; omega)⟩
      · have h2 : ¬ W[k] = 114 := by rw [← hsw]; exact fun e => h1 (by rw [e]; rfl)
        have cr := CUh.out X hXN
        rw [show stW r u W[k] (X : Int) = u.getD X 0 by unfold stW; rw [if_neg h2]; rfl] at cj
        clear h2 hsw
        generalize u.getD X 0 = Y at *
        generalize vs.getD X 0 = vX at *
        go_wp2_with fail
        exact ⟨⟨k + 1, hlt, by go_num, trivial⟩, by clear hq0 hq1; first | (simp [intOf]; done) | (simp [intOf]; omega)⟩
    · obtain rfl : k = ls.length := by omega
      go_wp2_with fail
      go_ret
      exact ⟨rfl, BB.out⟩

set_option maxRecDepth 100000 in
theorem lifted (os : Os) (started : os.Started) (H : Type) (enc : TypeId × Value → H) :
    ReturnsInHanded {} Try.checked os 4 .any (Rows.fnPathsSpec.pre6 enc Try.prog Try.f4 Rows.fnPathsRow.domain false) (Rows.fnPathsSpec.post enc Try.prog Try.f4 false true false false) := by
  refine returnsInHanded_of_change (C := Try.checked) own started (by kernel_rfl) Try.func4
    (ChangeSpec.witness6 (enc := enc) (C := Try.checked) false ⟨#[], #[.slice none 0 0], []⟩ 8 (by kernel_rfl) (by kernel_rfl) (by kernel_rfl) (by kernel_rfl)) ?_
  intro W base args ds gs before hval0 hW hcnd _
  have hval : ∀ (j : Nat) t v, Try.f4.params[j]? = some t → args[j]? = some v → Value.okWide Try.prog W .any base t v := hval0
  have hW' := hW
  obtain ⟨p, q, hA0, hV, rfl, hfz, hnd⟩ := hW
  have hA : DataW.TrodAll enc Try.prog W 0 (fun _ => true) true Try.f4.params.toList args.toList ds p := hA0
  rw [Try.params4] at hA hval
  obtain ⟨v0, vs0, d0, ds0, p0, q0, hargs, rfl, rfl, h0, r0⟩ := trodAll_cons hA
  obtain ⟨rfl, rfl, rfl⟩ := trodAll_nil r0
  obtain rfl : args = #[v0] := by cases args; simp_all
  obtain ⟨rfl, rfl⟩ := trodVars_none hV
  obtain ⟨A0, n0, c0, rfl⟩ := okWide_slice Try.underlying22 (hval 0 22 v0 rfl rfl)
  have lt0 : ∀ x ∈ p0, x.block < W.heap.size := by obtain ⟨m, hm⟩ := h0; exact DataW.trod_lt m _ _ _ hm
  obtain ⟨x0, rd0, cn0, cm0, el0⟩ := open_B Try.underlying22 Try.underlying5 (by kernel_rfl) h0
  clear hA0 hval0
  refine (walk (w := W) A0 n0 c0 x0 rd0 cn0 cm0 el0).mono fun e W' ⟨he, bel⟩ => ?_
  subst he
  exact ⟨_, rfl, _, _, _, [], _, [], hW', trodAll_mk1 (shut_bool Try.underlying4 _), (trodAll_cons_mk (Below.trod laidOut (by kernel_rfl) (of_decide_eq_true (by kernel_rfl)) h0 bel lt0) trodAll_mk0), rfl, bel.frame _, fun h => by cases h⟩

theorem over : Rows.fnPathsRow.holds Try.pinned (OpenSpec.ofChange Rows.fnPathsSpec) :=
  OpenClaim.holds_of_wide 4 Try.f4 rfl rfl rfl rfl rfl rfl rfl ⟨rfl, rfl, rfl, rfl, rfl⟩ rfl rfl rfl rfl rfl (by kernel_rfl) Try.func4 (by kernel_rfl)
    (of_decide_eq_true (by kernel_rfl)) (by unfold Func.isWrapper; first | (rw [if_pos (by decide +kernel)]; kernel_rfl) | (rw [if_neg (by decide +kernel)]; exact ⟨rfl, rfl⟩))
    (fun os started H enc _ => lifted os started H enc)

theorem proved : Rows.FnPathsSaid :=
  over
#print axioms proved
end Go.Proofs.Ytkkklpchkkdhfaa.fnPaths
