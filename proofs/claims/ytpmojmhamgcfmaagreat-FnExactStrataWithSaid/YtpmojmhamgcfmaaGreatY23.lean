import Derived.Test.YtpmojmhamgcfmaaGreatY18
import Derived.Test.YtpmojmhamgcfmaaGreatY22
import Derived.Test.YtpmojmhamgcfmaaGreatY13
import Derived.Test.YtpmojmhamgcfmaaGreatY09
import Derived.Test.YtpmojmhamgcfmaaGreatY20
import Derived.Test.YtpmojmhamgcfmaaGreatY21
import Derived.Test.YtpmojmhamgcfmaaGreatY08
/-
  SurfacesWith of the model.
-/
namespace Go.Proofs.YtpmojmhamgcfmaaGreat.lst
open Go.ChangeShapes Go.WideShapes Go.ChangeAt Go.RowKit
open Go.Proofs.YtpmojmhamgcfmaaGreat.mem Go.Proofs.YtpmojmhamgcfmaaGreat.ints Go.Proofs.YtpmojmhamgcfmaaGreat.arr Go.Proofs.YtpmojmhamgcfmaaGreat.pm Go.Proofs.YtpmojmhamgcfmaaGreat.sf Go.Proofs.YtpmojmhamgcfmaaGreat.orb
set_option linter.unusedVariables false
set_option maxRecDepth 100000

theorem putP_no {n : Nat} {acc : List Sur} {r u : List Int} (h : transB r u = false) : putP n acc r u = acc := by unfold putP; rw [h]; rfl
theorem prm_pos : ∀ n : Fin 5, 0 < (prmS n.val n.val).length := by decide +kernel
set_option maxHeartbeats 4000000 in
theorem sw_spec (n : Int) (w : World) : Calls Tryz.prog 9 #[.int .i64 n] w (SWPost n (swF n) w) := by
  by_cases hr : 1 ≤ n ∧ n ≤ 4
  · obtain ⟨N, rfl⟩ : ∃ N : Nat, n = (N : Int) := ⟨n.toNat, by omega⟩
    have h1 : 1 ≤ N := by omega
    have h4 : N ≤ 4 := by omega
    have EF := Lib.hid (swF_yes h1 h4)
    obtain ⟨l24, lrow⟩ := prm_ok (n := N) (i := N) h4 h4
    have LR := Lib.hid lrow; clear lrow
    have LP := Lib.hid (prm_pos ⟨N, by omega⟩)
    go_enter Tryz.func9, Tryz.ntmps9
    go_wp2_with (go_at_call 21; refine (permOk.in_yes _ _ _ _ (by omega) (by omega)).mono ?_; rintro e w' ⟨rfl, rfl⟩)
    have SX0 := Lib.hid (Sx.start w N)
    obtain ⟨w0, eW⟩ : ∃ W, W = w.alloc (.cells #[] 31) := ⟨_, rfl⟩
    rw [← eW] at SX0 ⊢
    clear eW
    refine (perms_spec N h4 _).mono ?_
    rintro e w1 ⟨A, c, rfl, rl, b1⟩
    have hlp : 0 < (prmS N N).length := LP.out
    obtain ⟨G, off, rfl, hG, rows⟩ := rl.at_ hlp
    have ROWS := Lib.hid rows
    have SX1 := Lib.hid (SX0.out.keep b1)
    clear rows rl b1 SX0 LP
    generalize prmS N N = L at *
    go_wp2_with fail
    go_loopw [3, 18] (fun vo i wr => ∃ a : Nat, a ≤ L.length ∧ i = .int .i64 a ∧ Sx w wr vo N (allP N [] (L.take a) L) ∧ (allP N [] (L.take a) L).length ≤ a * 24 ∧ Below w1.heap.size w1 wr) (fun _ i _ => L.length - (intOf i).toNat)
    case atStart => exact ⟨0, Nat.zero_le _, rfl, SX1.out, Nat.zero_le _, Below.refl _ _⟩
    case round =>
      obtain ⟨a, ha, rfl, sx, slen, bx⟩ := hrel
      have SX := Lib.hid sx; have BX := Lib.hid bx; clear sx bx SX1
      by_cases hal : a < L.length
      · obtain ⟨p, hp⟩ : ∃ p, L[a]? = some p := ⟨_, List.getElem?_eq_getElem hal⟩
        have EA := Lib.hid (allP_take (n := N) (acc := []) (U := L) hp)
        obtain ⟨g, o, cp, hco, hpc, rp⟩ := ROWS.out a p hp
        have RP := Lib.hid rp; clear rp
        have hc : wr.cell? ⟨G, off + a, none⟩ = some (.slice (some ⟨g, o, none⟩) p.length cp) := by rw [BX.out.cell (p := ⟨G, off + a, none⟩) hG]; exact hco
        have plen : p.length ≤ 4 := by have := LR.out p (List.mem_of_getElem? hp); omega
        have PL := Lib.hid (LR.out p (List.mem_of_getElem? hp))
        generalize hM : allP N [] (L.take a) L = M at *
        clear hM hco hp
        go_wp2_with fail
        obtain ⟨wq, rfl⟩ : ∃ wq : World, wq = wr := ⟨_, rfl⟩
        clear hc
        go_loopw [3, 24] (fun vo i wr => ∃ b : Nat, b ≤ L.length ∧ i = .int .i64 b ∧ Sx w wr vo N (rowP N M p (L.take b)) ∧ (rowP N M p (L.take b)).length ≤ a * 24 + b ∧ Below w1.heap.size w1 wr) (fun _ i _ => L.length - (intOf i).toNat)
        case atStart => exact ⟨0, Nat.zero_le _, rfl, SX.out, slen, BX.out⟩
        case round =>
          obtain ⟨b, hb, rfl, sx, slen, bx⟩ := hrel
          have SY := Lib.hid sx; have BY := Lib.hid bx; clear sx bx SX BX
          by_cases hbl : b < L.length
          · obtain ⟨q, hq⟩ : ∃ q, L[b]? = some q := ⟨_, List.getElem?_eq_getElem hbl⟩
            have EB := Lib.hid (rowP_take (n := N) (acc := M) (r := p) hq)
            obtain ⟨g2, o2, cq, hco2, hqc, rq⟩ := ROWS.out b q hq
            have RQ := Lib.hid rq; clear rq
            have hc2 : wr.cell? ⟨G, off + b, none⟩ = some (.slice (some ⟨g2, o2, none⟩) q.length cq) := by rw [BY.out.cell (p := ⟨G, off + b, none⟩) hG]; exact hco2
            have qlen : q.length ≤ 4 := by have := LR.out q (List.mem_of_getElem? hq); omega
            generalize hM : rowP N M p (L.take b) = K at *
            clear hM hco2 hq
            have SD : Hid (Srd wr w1.heap.size (.agg #[.slice (some ⟨g, o, none⟩) p.length cp, .slice (some ⟨g2, o2, none⟩) q.length cq]) p q) := Lib.hid
              ⟨_, _, cp, _, _, cq, rfl, RP.out.keep BY.out (Nat.le_refl _), RQ.out.keep BY.out (Nat.le_refl _), hpc, hqc⟩
            have ST1 : Hid (∃ W, W = wr.alloc (.cells #[.slice (some ⟨g, o, none⟩) p.length cp, .slice (some ⟨g2, o2, none⟩) q.length cq] 31) ∧ Below wr.heap.size wr W ∧ Arr W wr.heap.size [.slice (some ⟨g, o, none⟩) p.length cp, .slice (some ⟨g2, o2, none⟩) q.length cq] 31) := Lib.hid
              ⟨_, rfl, (Below.refl _ _).alloc (Nat.le_refl _) _, Arr.new wr _ _ rfl⟩
            go_wp2_with fail
            obtain ⟨w2, eW, b2, ar⟩ := ST1.out
            rw [← eW]
            have AR := Lib.hid ar; have B2 := Lib.hid b2
            clear ar eW ST1 hc2 b2
            have s2 := B2.out.size
            have SD2 := Lib.hid (SD.out.keep (B2.out.mono BY.out.size) (Nat.le_refl _))
            clear SD
            refine (ok_spec _ p q _ _ SD2.out (by omega) (by omega)).mono ?_
            rintro e w3 ⟨rfl, b3⟩
            have B3 := Lib.hid (B2.out.trans (b3.mono s2))
            have s3 := b3.size
            have AR3 := Lib.hid (AR.out.keep b3 AR.out.lt)
            have SD3 := Lib.hid (SD2.out.keep (b3.mono (Nat.le_trans BY.out.size s2)) (Nat.le_refl _))
            clear b3 AR B2 SD2
            have c0 := AR3.out.cell (k := 0) rfl; have c1 := AR3.out.cell (k := 1) rfl
            have hlt := AR3.out.lt
            generalize hbx : wr.heap.size = bx at *
            cases ht : transB p q
            · have PN := Lib.hid (putP_no (n := N) (acc := K) ht)
              go_wp2_with fail
              go_roundw
              case rel => exact ⟨b + 1, by omega, by go_num, by rw [EB.out, PN.out]; exact SY.out.keep (by rw [hbx]; exact B3.out), by rw [EB.out, PN.out]; omega, BY.out.trans (B3.out.mono (by rw [← hbx]; exact BY.out.size))⟩
              case measure => simp [intOf]; omega
            · have HS : Hid (Sf N p q) := Lib.hid (by have := transB_iff.1 ht; rwa [PL.out] at this)
              have HT := Lib.hid ht; clear ht
              obtain ⟨A', c', rfl⟩ := SY.out.form
              go_wp2_with fail
              refine (gl.canon_spec _ p q N _ _ SD3.out HS.out).mono ?_
              rintro e w4 ⟨gv, rfl, sv, b4⟩
              obtain ⟨_, _, hcs⟩ := HS.out.can_iso
              obtain ⟨P', d1, Q', d2, rfl⟩ := Svl.formN sv hcs.lr hcs.lu
              obtain ⟨Z, zb, zm, zl, zo, zp, zs⟩ := SY.out.join (by rw [hbx]; exact B3.out) b4 sv (by omega)
              have zlen : K.length ≤ 1000 := by omega
              have HZ := Lib.hid (And.intro zm zl)
              have B4 : Hid (Below bx w0 w0 ∧ Below bx wr w4) := Lib.hid ⟨Below.refl _ _, B3.out.trans (b4.mono (by omega))⟩
              have HP := Lib.hid zp; have HSZ := Lib.hid zs; have HO := Lib.hid zo
              have s4 := b4.size
              clear zm zl zp zs zo sv b4
              have HC := Lib.hid hcs; clear hcs
              go_wp2_with fail
              refine (ins_spec _ _ _ Z zb P' Q' d1 d2 N _ _ _ (can p q N) _ _ HO.out HZ.out.2 zlen HP.out ⟨HC.out, HSZ.out⟩).mono ?_
              rintro e w5 ⟨v, rfl, io⟩
              have SN : Hid (Sx w w5 v N (putP N K p q)) := Lib.hid (SY.out.put (by rw [hbx]; exact B4.out.2) HT.out PL.out HZ.out.1 HP.out io)
              have BN : Hid (Below w1.heap.size w1 w5) := Lib.hid ((BY.out.trans (B4.out.2.mono (by rw [← hbx]; exact BY.out.size))).trans (io.bel.mono (by have := BY.out.size; omega)))
              have ln := putP_len N K p q
              clear io HO HP HSZ SY
              go_wp2_with fail
              go_roundw
              case rel => exact ⟨b + 1, by omega, by go_num, by rw [EB.out]; exact SN.out, by rw [EB.out]; omega, BN.out⟩
              case measure => simp [intOf]; omega
          · obtain rfl : b = L.length := by omega
            have SE : Hid (Sx w wr u3 N (allP N [] (L.take (a + 1)) L)) := Lib.hid (by have := SY.out; rwa [List.take_of_length_le (Nat.le_refl _), ← EA.out] at this)
            have LE : (allP N [] (L.take (a + 1)) L).length ≤ a * 24 + L.length := by rw [List.take_of_length_le (Nat.le_refl _), ← EA.out] at slen; exact slen
            clear slen SY EA
            go_wp2_with fail
            go_roundw
            case rel => exact ⟨a + 1, by omega, by go_num, SE.out, by omega, BY.out⟩
            case measure => simp [intOf]; omega
      · obtain rfl : a = L.length := by omega
        have SE : Hid (Sx w wr u3 N (swF (N : Int))) := Lib.hid (by have := SX.out; rwa [List.take_of_length_le (Nat.le_refl _), ← EF.out] at this)
        clear SX slen EF
        go_wp2_with fail
        go_ret
        exact sx_post SE.out rfl
  · have HF := Lib.hid (swF_no hr)
    go_enter Tryz.func9, Tryz.ntmps9
    go_wp2_with (go_at_call 21; refine (permOk.in_no _ _ _ _ (by omega)).mono ?_; rintro e w' ⟨rfl, rfl⟩)
    go_ret
    exact sw_none HF.out (Below.refl _ _)
end Go.Proofs.YtpmojmhamgcfmaaGreat.lst

/-
  formsWith: all forms with n squares, in ascending order.
-/
namespace Go.Proofs.YtpmojmhamgcfmaaGreat.lst
open Go.ChangeShapes Go.WideShapes Go.ChangeAt Go.RowKit
open Go.Proofs.YtpmojmhamgcfmaaGreat.mem Go.Proofs.YtpmojmhamgcfmaaGreat.ints Go.Proofs.YtpmojmhamgcfmaaGreat.arr Go.Proofs.YtpmojmhamgcfmaaGreat.pm Go.Proofs.YtpmojmhamgcfmaaGreat.sf Go.Proofs.YtpmojmhamgcfmaaGreat.gl Go.Proofs.YtpmojmhamgcfmaaGreat.orb Go.Proofs.YtpmojmhamgcfmaaGreat.lp
open Go.Proofs.YtpmojmhamgcfmaaGreat.wd
set_option linter.unusedVariables false
set_option maxRecDepth 100000

theorem builtA : Tryz.prog.built 67 [(1, (.func (.func 44) #[] #[]))] = some #[.slice none 0 0, (.func (.func 44) #[] #[])] := by kernel_rfl
theorem sizeA : (Tryz.prog.info? 67).map (·.size) = some 2 := by kernel_rfl
def FWPost (n : Int) (w : World) (e : Ending) (w' : World) : Prop :=
  ∃ v, e = .returned v ∧ w'.ownsRow w.heap.size 62 49 v (swF n).length (flG n.toNat (swF n)) ∧ Below w.heap.size w w'
theorem fw_none {n : Int} {w w' : World} (h : swF n = []) (hb : Below w.heap.size w w') : FWPost n w (.returned (.slice none 0 0)) w' :=
  ⟨_, rfl, by rw [h]; exact ⟨rfl, .inl ⟨rfl, rfl⟩⟩, hb⟩
theorem swF_prC {n : Nat} (h1 : 1 ≤ n) (h4 : n ≤ 4) : swF (n : Int) = allP n [] (prC n) (prC n) := by
  rw [swF_yes h1 h4]
  exact (alI_kernel ⟨n, by omega⟩).symm
/-- The row of permutations reads. -/
theorem pr_read {w wr : World} {base : Nat} {v : Value} {L : List (List Int)} (h : Pr w wr base v L) (hl : 0 < L.length) (h24 : ∀ p ∈ L, p.length = 24) :
    ∃ g c, v = .slice (some ⟨g, 0, none⟩) L.length c ∧ L.length ≤ c ∧ base ≤ g ∧ g < wr.heap.size ∧ ∀ W : World, W.heap[g]? = wr.heap[g]? → ∀ (a : Nat) p, L[a]? = some p → ∀ (j : Nat) u, (V p)[j]? = some u → W.cell? ⟨g, a * 24 + j, none⟩ = some u := by
  rcases h.own.2 with ⟨q, q2⟩ | ⟨g, cap, cur, q, h1, h2, h3, _⟩
  · omega
  · subst q
    refine ⟨g, cap, rfl, h3, h1, (Array.getElem?_eq_some_iff.1 h2).1, fun W hW a p hp j u hu => ?_⟩
    have e := h.own.cells (g := g) rfl (a * 24 + j) u (flP_at h24 hp j u hu)
    rw [show ((⟨g, 0, none⟩ : Addr).add (a * 24 + j)) = ⟨g, a * 24 + j, none⟩ by unfold Addr.add; split <;> simp_all] at e
    rw [World.cell?_of_block (w := wr) (a := ⟨g, a * 24 + j, none⟩) hW]
    exact e
set_option maxHeartbeats 4000000 in
theorem formsWith_any (n : Int) (w : World) : Calls Tryz.prog 29 #[.int .i64 n] w (FWPost n w) := by
  by_cases hr : 1 ≤ n ∧ n ≤ 4
  · obtain ⟨N, rfl⟩ : ∃ N : Nat, n = (N : Int) := ⟨n.toNat, by omega⟩
    have h1 : 1 ≤ N := by omega
    have h4 : N ≤ 4 := by omega
    have EF := Lib.hid (swF_prC h1 h4)
    obtain ⟨l24, lall⟩ := prI_ok (k := N) h4
    have LA := Lib.hid lall; clear lall
    have LP := Lib.hid (fun p (hp : p ∈ prI N) => prI_perm h4 hp)
    have LR := Lib.hid (fun p q (hp : p ∈ prI N) (hq : q ∈ prI N) => reach_tr h4 h1 hp hq)
    have LC := Lib.hid (prC_len N)
    have LT := Lib.hid (fun a p (h : (prI N)[a]? = some p) => prC_at h)
    have LZ : 0 < (prI N).length := by
      have : ∀ k : Fin 5, 0 < (prI k.val).length := by decide +kernel
      exact this ⟨N, by omega⟩
    have hn1 : ¬ ((N : Int) < 1) := by omega
    have hn4 : ¬ ((4 : Int) < (N : Int)) := by omega
    go_enter Tryz.func29, Tryz.ntmps29
    go_wp2_with (first | (refine gl.wpList_build rfl 67 _ rfl [(1, (.func (.func 44) #[] #[]))] rfl _ builtA ?_) | (refine wpList_store_fresh rfl 67 _ _ rfl [.slice none 0 0, (.func (.func 44) #[] #[])] #[.slice none 0 0, .nilFunc] rfl rfl sizeA rfl (by simp [Value.oneCell']) ?_; intro w1 b1 a1 s1))
    refine (allPerms_any N h4 _).mono ?_
    rintro e w2 ⟨vp, rfl, pr⟩
    have hb := a1.lt
    have AS0 : Hid (As w2 w.heap.size w.heap.size N (.slice none 0 0) []) := Lib.hid ⟨a1.keep pr.bel a1.lt, ⟨rfl, .inl ⟨rfl, rfl⟩⟩, fun e => by simp [Value.ownBlock] at e, List.Pairwise.nil, fun y hy => by simp at hy⟩
    have B2 : Hid (Below w.heap.size w w2) := Lib.hid (b1.trans (pr.bel.mono (by omega)))
    obtain ⟨gp, cp, rfl, hcp, hgb, hgp, rd⟩ := pr_read pr LZ LA.out
    have RD := Lib.hid rd
    have hgp0 : w.heap.size < gp := by omega
    clear rd pr a1 b1 LZ
    generalize prI N = L at *
    generalize hC : prC N = C at *
    go_wp2_with fail
    go_loopw [20] (fun i wr => ∃ (a : Nat) (v : Value), a ≤ L.length ∧ i = .int .i64 a ∧ As wr w.heap.size w.heap.size N v (allP N [] (C.take a) C) ∧ (allP N [] (C.take a) C).length ≤ a * 24 ∧ Fr w2 wr w.heap.size (.slice none 0 0) v) (fun i _ => L.length - (intOf i).toNat)
    case atStart => exact ⟨0, _, Nat.zero_le _, rfl, AS0.out, Nat.zero_le _, Fr.of _ _ (Below.refl _ _)⟩
    case round =>
      obtain ⟨a, v, ha, rfl, ak, slen, fr⟩ := hrel
      have AS := Lib.hid ak; have FR := Lib.hid fr; clear ak fr AS0
      by_cases hal : a < L.length
      · obtain ⟨p, hp⟩ : ∃ p, L[a]? = some p := ⟨_, List.getElem?_eq_getElem hal⟩
        have EA := Lib.hid (allP_take (n := N) (acc := []) (U := C) (LT.out a p hp))
        have HP := Lib.hid (List.mem_of_getElem? hp)
        have PL : p.length = 24 := LA.out p HP.out
        have HC : Hid (∀ (j : Nat) u, (V p)[j]? = some u → wr.cell? ⟨gp, a * 24 + j, none⟩ = some u) := Lib.hid (RD.out wr (FR.out.block gp hgp (by omega) (fun e => by simp [Value.ownBlock] at e)) a p hp)
        have HSZ : (Tryz.prog.info? 60).map (·.size) = some (V p).length := by rw [info44, V_len, PL]
        have HS2 : (Tryz.prog.info? 60).map (·.size) = some (V p).toArray.size := size_V PL
        have HZ : (#[.int .i64 0, .int .i64 0, .int .i64 0, .int .i64 0, .int .i64 0, .int .i64 0, .int .i64 0, .int .i64 0, .int .i64 0, .int .i64 0, .int .i64 0, .int .i64 0, .int .i64 0, .int .i64 0, .int .i64 0, .int .i64 0, .int .i64 0, .int .i64 0, .int .i64 0, .int .i64 0, .int .i64 0, .int .i64 0, .int .i64 0, .int .i64 0] : Array Value).size = (V p).toArray.size := by simp [V_len, PL]
        generalize hM : allP N [] (C.take a) C = M at *
        clear hM hp
        go_wp2_with (first | (refine wpList_load_part rfl 60 _ rfl gp (a * 24) rfl (V p) _ HC.out Tryz.underlying60 rfl HSZ ?_) | (refine wpList_store_fresh rfl 60 _ _ rfl (V p) _ rfl rfl HS2 HZ (one_V p) ?_; intro wq bq aq sq))
        have AQ := Lib.hid aq
        have ASq := Lib.hid (AS.out.keep bq)
        have FRq := Lib.hid (FR.out.trans (Fr.of _ _ bq))
        have NV : Hid (¬ v.ownBlock = some wr.heap.size) := Lib.hid (fun e => by have := (AS.out.own.lt _ e).2; omega)
        have hb6 : wr.heap.size < wq.heap.size := by omega
        have hb6w : w.heap.size < wr.heap.size := by have := AS.out.box.lt; omega
        generalize wr.heap.size = b6 at *
        clear aq bq sq AS FR HC
        go_loopw [26] (fun i wr => ∃ (b : Nat) (v' : Value), b ≤ L.length ∧ i = .int .i64 b ∧ As wr w.heap.size w.heap.size N v' (rowP N M (cut N p) (C.take b)) ∧ (rowP N M (cut N p) (C.take b)).length ≤ a * 24 + b ∧ Fr wq wr w.heap.size v v') (fun i _ => L.length - (intOf i).toNat)
        case atStart => exact ⟨0, v, Nat.zero_le _, rfl, ASq.out, slen, Fr.of _ _ (Below.refl _ _)⟩
        case round =>
          obtain ⟨b, v', hbb, rfl, ak, slen, fr⟩ := hrel
          have AS := Lib.hid ak; have FR := Lib.hid fr; clear ak fr ASq
          have FR2 := Lib.hid (FRq.out.trans FR.out)
          have A6 : Hid (Arr wr b6 (V p) 60) := Lib.hid ((FR.out.block b6 hb6 (by omega) NV.out).trans AQ.out)
          by_cases hbl : b < L.length
          · obtain ⟨q, hq⟩ : ∃ q, L[b]? = some q := ⟨_, List.getElem?_eq_getElem hbl⟩
            have EB := Lib.hid (rowP_take (n := N) (acc := M) (r := cut N p) (LT.out b q hq))
            have HQ := Lib.hid (List.mem_of_getElem? hq)
            have QL : q.length = 24 := LA.out q HQ.out
            have HC : Hid (∀ (j : Nat) u, (V q)[j]? = some u → wr.cell? ⟨gp, b * 24 + j, none⟩ = some u) := Lib.hid (RD.out wr (FR2.out.block gp hgp (by omega) (fun e => by simp [Value.ownBlock] at e)) b q hq)
            have HQZ : (Tryz.prog.info? 60).map (·.size) = some (V q).length := by rw [info44, V_len, QL]
            have HQ2 : (Tryz.prog.info? 60).map (·.size) = some (V q).toArray.size := size_V QL
            have HZ2 : (#[.int .i64 0, .int .i64 0, .int .i64 0, .int .i64 0, .int .i64 0, .int .i64 0, .int .i64 0, .int .i64 0, .int .i64 0, .int .i64 0, .int .i64 0, .int .i64 0, .int .i64 0, .int .i64 0, .int .i64 0, .int .i64 0, .int .i64 0, .int .i64 0, .int .i64 0, .int .i64 0, .int .i64 0, .int .i64 0, .int .i64 0, .int .i64 0] : Array Value).size = (V q).toArray.size := by simp [V_len, QL]
            generalize hM : rowP N M (cut N p) (C.take b) = K at *
            clear hM hq
            have hwr := A6.out.lt
            go_wp2_with (first | (refine wpList_load_part rfl 60 _ rfl gp (b * 24) rfl (V q) _ HC.out Tryz.underlying60 rfl HQZ ?_) | (refine wpList_store_fresh rfl 60 _ _ rfl (V q) _ rfl rfl HQ2 HZ2 (one_V q) ?_; intro wx bx ax sx; have A6x : Hid (Arr wx b6 (V p) 60) := Lib.hid (A6.out.keep bx hwr)) | (refine wpList_load_row rfl 60 _ rfl b6 rfl 60 (V p).toArray (0, 0) _ A6x.out Tryz.underlying60 rfl HS2 ?_) | (refine wpList_load_row rfl 60 _ rfl wr.heap.size rfl 60 (V q).toArray (0, 0) _ ax Tryz.underlying60 rfl HQ2 ?_))
            obtain ⟨ep, op, lp'⟩ := LP.out p HP.out
            obtain ⟨eq', oq, lq⟩ := LP.out q HQ.out
            have SP := op.sq; rw [← ep] at SP
            have SQ := oq.sq; rw [← eq'] at SQ
            have EP := Lib.hid ep; have EQ := Lib.hid eq'; have LPN := Lib.hid lp'
            have AX := Lib.hid ax
            have ASx := Lib.hid (AS.out.keep bx); have FRx := Lib.hid (FR.out.trans (Fr.of _ _ bx))
            have hbw : w.heap.size < wr.heap.size := by omega
            generalize wr.heap.size = bq at *
            clear ep eq' op oq lp' lq bx ax sx AS FR A6 HC FR2
            refine (fns.count_any p q _ SP SQ).mono ?_
            rintro e wy ⟨rfl, by_⟩
            have A6y := Lib.hid (A6x.out.keep by_ A6x.out.lt); have AY := Lib.hid (AX.out.keep by_ AX.out.lt)
            have ASy := Lib.hid (ASx.out.keep by_); have FRy := Lib.hid (FRx.out.trans (Fr.of _ _ by_))
            have LRZ := LR.out p q HP.out HQ.out
            clear by_ A6x AX ASx FRx SP SQ
            generalize (reach p q 0).length = z at *
            by_cases hzn : z = N
            · subst hzn
              have HT : Hid (transB (cut z p) (cut z q) = true) := Lib.hid (by rw [← LRZ]; exact decide_eq_true rfl)
              have HS : Hid (Sf z (cut z p) (cut z q)) := Lib.hid (by have := transB_iff.1 HT.out; rwa [LPN.out] at this)
              have HPUT : Hid (putP z K (cut z p) (cut z q) = insL K (orb.cn (cut z p, cut z q)) false) := Lib.hid (by
                unfold putP
                rw [if_pos HT.out]
                unfold orb.cn
                rw [LPN.out])
              have FM := form_any (cut z p) (cut z q) z wy HS.out
              rw [← EP.out, ← EQ.out] at FM
              have HF := Lib.hid FM
              clear LRZ FM
              go_wp2_with (first | (refine wpList_load_row rfl 60 _ rfl b6 rfl 60 (V p).toArray (0, 0) _ A6y.out Tryz.underlying60 rfl HS2 ?_) | (refine wpList_load_row rfl 60 _ rfl bq rfl 60 (V q).toArray (0, 0) _ AY.out Tryz.underlying60 rfl HQ2 ?_) | (refine gl.wpList_build rfl 62 _ rfl [(0, .agg (V p).toArray), (1, .agg (V q).toArray), (2, .int .i64 z)] rfl (V (gl p q z)).toArray (built_gl PL QL z) ?_))
              refine HF.out.mono ?_
              rintro e wz ⟨rfl, bz⟩
              have ASz := Lib.hid (ASy.out.keep bz); have FRz := Lib.hid (FRy.out.trans (Fr.of _ _ bz))
              have SC := cn_sf (s := (cut z p, cut z q)) HS.out
              have HSC := Lib.hid SC
              clear bz ASy FRy AY A6y HF SC
              go_wp2_with fail
              refine (insertG w.heap.size w.heap.size z v' K (orb.cn (cut z p, cut z q)) _ ASz.out (Nat.le_refl _) HSC.out (by omega)).mono ?_
              rintro e wu ⟨v5, rfl, as5, fr5⟩
              have ln := putP_len z K (cut z p) (cut z q)
              have AS5 : Hid (As wu w.heap.size w.heap.size z v5 (rowP z M (cut z p) (C.take (b + 1)))) := Lib.hid (by rw [EB.out, HPUT.out]; exact as5)
              have L5 : (rowP z M (cut z p) (C.take (b + 1))).length ≤ a * 24 + (b + 1) := by rw [EB.out]; omega
              have FR5 := Lib.hid (FRz.out.trans fr5)
              clear as5 fr5 ASz FRz ln
              go_wp2_with fail
              go_roundw
              case rel => exact ⟨b + 1, v5, by omega, by go_num, AS5.out, L5, FR5.out⟩
              case measure => simp [intOf]; omega
            · have HT : Hid (transB (cut N p) (cut N q) = false) := Lib.hid (by rw [← LRZ]; exact decide_eq_false hzn)
              have hzi : ¬ ((z : Int) = (N : Int)) := by omega
              have PN := Lib.hid (putP_no (n := N) (acc := K) HT.out)
              clear LRZ
              go_wp2_with fail
              go_roundw
              case rel => exact ⟨b + 1, v', by omega, by go_num, by rw [EB.out, PN.out]; exact ASy.out, by rw [EB.out, PN.out]; omega, FRy.out⟩
              case measure => simp [intOf]; omega
          · obtain rfl : b = L.length := by omega
            have TK : C.take L.length = C := List.take_of_length_le (by rw [LC.out]; exact Nat.le_refl _)
            have SE : Hid (As wr w.heap.size w.heap.size N v' (allP N [] (C.take (a + 1)) C)) := Lib.hid (by have := AS.out; rwa [TK, ← EA.out] at this)
            have LE : (allP N [] (C.take (a + 1)) C).length ≤ a * 24 + L.length := by rw [TK, ← EA.out] at slen; exact slen
            clear slen AS EA TK A6
            go_wp2_with fail
            go_roundw
            case rel => exact ⟨a + 1, v', by omega, by go_num, SE.out, by omega, FR2.out⟩
            case measure => simp [intOf]; omega
      · obtain rfl : a = L.length := by omega
        have TK : C.take L.length = C := List.take_of_length_le (by rw [LC.out]; exact Nat.le_refl _)
        have SE : Hid (As wr w.heap.size w.heap.size N v (swF (N : Int))) := Lib.hid (by have := AS.out; rwa [TK, ← EF.out] at this)
        have LE : (swF (N : Int)).length ≤ L.length * 24 := by rw [TK, ← EF.out] at slen; exact slen
        have hwz : w.heap.size ≤ wr.heap.size := by have := SE.out.box.lt; omega
        clear slen AS EF TK
        go_wp2_with fail
        refine (takeG w.heap.size w.heap.size N v (swF (N : Int)) _ SE.out (Nat.le_refl _) (by omega)).mono ?_
        rintro e wu ⟨vu, v2, rfl, ow, _, fr⟩
        have BE : Hid (Below w.heap.size w wu) := Lib.hid (B2.out.trans ((FR.out.trans fr).below B2.out.size (Nat.le_refl _) (fun k e => by simp [Value.ownBlock] at e)))
        have OE : Hid (wu.ownsRow w.heap.size 62 49 vu (swF (N : Int)).length (flG N (swF (N : Int)))) := Lib.hid ⟨ow.1, ow.2.imp id (fun ⟨g, cap, cur, q1, q2, q3⟩ => ⟨g, cap, cur, q1, Nat.le_trans hwz q2, q3⟩)⟩
        clear ow fr
        go_wp2_with fail
        go_ret
        exact ⟨_, rfl, OE.out, BE.out⟩
  · have HF := Lib.hid (swF_no hr)
    by_cases hn1 : n < 1
    · go_enter Tryz.func29, Tryz.ntmps29
      go_wp2_with fail
      go_ret
      exact fw_none HF.out (Below.refl _ _)
    · have hn4 : (4 : Int) < n := by omega
      go_enter Tryz.func29, Tryz.ntmps29
      go_wp2_with fail
      go_ret
      exact fw_none HF.out (Below.refl _ _)
end Go.Proofs.YtpmojmhamgcfmaaGreat.lst

/-
  surfacesOf, SurfacesWith of the program.
-/
namespace Go.Proofs.YtpmojmhamgcfmaaGreat.lst
open Go.ChangeShapes Go.WideShapes Go.ChangeAt Go.RowKit
open Go.Proofs.YtpmojmhamgcfmaaGreat.mem Go.Proofs.YtpmojmhamgcfmaaGreat.ints Go.Proofs.YtpmojmhamgcfmaaGreat.arr Go.Proofs.YtpmojmhamgcfmaaGreat.pm Go.Proofs.YtpmojmhamgcfmaaGreat.sf Go.Proofs.YtpmojmhamgcfmaaGreat.gl Go.Proofs.YtpmojmhamgcfmaaGreat.orb Go.Proofs.YtpmojmhamgcfmaaGreat.lp
open Go.Proofs.YtpmojmhamgcfmaaGreat.wd
set_option linter.unusedVariables false
set_option maxRecDepth 100000

theorem ext_take {xs : List Int} {n : Nat} (h : xs.length = n) (h24 : n ≤ 24) : (ext xs).take n = xs := by
  rw [ext_app xs (by omega), ← h]
  simp
theorem infoS11 : (Tryz.prog.info? 31).map (fun i => (i.zero, i.size, i.bytes)) = some (some (.agg #[.slice none 0 0, .slice none 0 0]), 2, 48) := by kernel_rfl
set_option maxHeartbeats 2000000 in
theorem surfacesOf_any (base n : Nat) (v : Value) (L : List Sur) (w : World) (ho : w.ownsRow base 62 49 v L.length (flG n L)) (hs : ∀ y ∈ L, Sf n y.1 y.2) (hl : L.length ≤ 1000) :
    Calls Tryz.prog 28 #[v] w fun e w' => ∃ v', e = .returned v' ∧ Sx w w' v' n L := by
  have HO := Lib.hid ho; have HS := Lib.hid hs; clear hs
  obtain ⟨i0, hi0, hz0, hz1, hz2⟩ := info_parts infoS11
  obtain ⟨A, c, rfl⟩ := mem.own_form ho
  clear ho
  go_enter Tryz.func28, Tryz.ntmps28
  go_wp2_with fail
  go_loopw [3, 8] (fun vo i wr => ∃ k : Nat, k ≤ L.length ∧ i = .int .i64 k ∧ Sx w wr vo n (L.take k)) (fun _ i _ => L.length - (intOf i).toNat)
  case atStart => exact ⟨0, Nat.zero_le _, rfl, Sx.nil n (Below.refl _ _)⟩
  case round =>
    obtain ⟨k, hk, rfl, sx⟩ := hrel
    have SX := Lib.hid sx; clear sx
    by_cases hlt : k < L.length
    · obtain ⟨s, hx⟩ : ∃ s, L[k]? = some s := ⟨_, List.getElem?_eq_getElem hlt⟩
      have SS := Lib.hid (HS.out s (List.mem_of_getElem? hx))
      have ET : Hid (L.take (k + 1) = L.take k ++ [s]) := Lib.hid (by rw [List.take_add_one, hx]; rfl)
      have LT : (L.take k).length ≤ 1000 := by rw [List.length_take, Nat.min_eq_left hk]; omega
      have hA : ∃ g, A = some ⟨g, 0, none⟩ ∧ g < w.heap.size := by
        rcases HO.out.2 with ⟨q, q2⟩ | ⟨g, cap, cur, q, _, h2, _⟩
        · omega
        · injection q with q1 q2 q3
          exact ⟨g, q1, (Array.getElem?_eq_some_iff.1 h2).1⟩
      obtain ⟨g, rfl, hg⟩ := hA
      have HC : Hid (∀ (j : Nat) u, (V (gS s n))[j]? = some u → wr.cell? ⟨g, k * 49 + j, none⟩ = some u) := Lib.hid (fun j u hu => by
        rw [SX.out.bel.cell (p := ⟨g, k * 49 + j, none⟩) hg]
        exact own_cells HO.out _ u (flG_at n hx j u hu))
      have HSZ : (Tryz.prog.info? 62).map (·.size) = some (V (gS s n)).length := hiS s n
      have HS2 : (Tryz.prog.info? 62).map (·.size) = some (V (gS s n)).toArray.size := size49 (gS_len s n)
      have HZ : (#[.int .i64 0, .int .i64 0, .int .i64 0, .int .i64 0, .int .i64 0, .int .i64 0, .int .i64 0, .int .i64 0, .int .i64 0, .int .i64 0, .int .i64 0, .int .i64 0, .int .i64 0, .int .i64 0, .int .i64 0, .int .i64 0, .int .i64 0, .int .i64 0, .int .i64 0, .int .i64 0, .int .i64 0, .int .i64 0, .int .i64 0, .int .i64 0, .int .i64 0, .int .i64 0, .int .i64 0, .int .i64 0, .int .i64 0, .int .i64 0, .int .i64 0, .int .i64 0, .int .i64 0, .int .i64 0, .int .i64 0, .int .i64 0, .int .i64 0, .int .i64 0, .int .i64 0, .int .i64 0, .int .i64 0, .int .i64 0, .int .i64 0, .int .i64 0, .int .i64 0, .int .i64 0, .int .i64 0, .int .i64 0, .int .i64 0] : Array Value).size = (V (gS s n)).toArray.size := by simp [gS_vlen]
      generalize hM : L.take k = M at *
      clear hM hx
      have hwr := SX.out.bel.size
      go_wp2_with (first | (refine wpList_load_part rfl 62 _ rfl g (k * 49) rfl (V (gS s n)) _ HC.out Tryz.underlying62 rfl HSZ ?_) | (refine wpList_store_fresh rfl 62 _ _ rfl (V (gS s n)) _ rfl rfl HS2 HZ (one_V _) ?_; intro wx bx ax sx_) | (refine wpList_load_row rfl 62 _ rfl wr.heap.size rfl 62 (V (gS s n)).toArray (0, 0) _ ax Tryz.underlying62 rfl HS2 ?_))
      refine (surface_any (ext s.1) (ext s.2) n _ (ext_len _) (ext_len _) (sf24 SS.out)).mono ?_
      rintro e wy ⟨gv, rfl, sv, by_⟩
      rw [ext_take SS.out.lr (sf24 SS.out), ext_take SS.out.lu (sf24 SS.out)] at sv
      obtain ⟨P', d1, Q', d2, rfl⟩ := Svl.formN sv SS.out.lr SS.out.lu
      obtain ⟨Z, zb, zm, zl, zo, zp, zs⟩ := SX.out.join bx by_ sv SS.out.pos
      have BB := Lib.hid (bx.trans (by_.mono (by omega)))
      have HZ1 := Lib.hid zm; have HZ2 := Lib.hid zl; have HP := Lib.hid zp; have HV : Hid (∀ b, u3.ownBlock = some b → b < wr.heap.size) := Lib.hid (fun b e => by
        obtain ⟨Z', _, o, _⟩ := SX.out.ex
        exact (o.lt b e).2)
      have s1 := bx.size; have s2 := by_.size
      have bA : Below wy.heap.size wy (wy.alloc (.cells #[.slice P' n d1, .slice Q' n d2] 31)) := (Below.refl _ _).alloc (Nat.le_refl _) _
      have OA : Hid ((wy.alloc (.cells #[.slice P' n d1, .slice Q' n d2] 31)).ownsRow w.heap.size 31 2 u3 M.length (hsOf Z)) := Lib.hid (zo.alloc _)
      have HN : Hid (∀ (j : Nat) u, [Value.slice P' n d1, .slice Q' n d2][j]? = some u → (wy.alloc (.cells #[.slice P' n d1, .slice Q' n d2] 31)).cell? ((⟨wy.heap.size, 0, none⟩ : Addr).add j) = some u) := Lib.hid (World.news_of_block (Arr.new wy _ _ rfl))
      have h63 : M.length + 1 ≤ maxLen := by unfold maxLen; omega
      have hby : (M.length + 1) * 48 ≤ 140737488355328 := by omega
      have hba : w.heap.size ≤ (wy.alloc (.cells #[.slice P' n d1, .slice Q' n d2] 31)).heap.size := by simp; omega
      have V1 : Hid (∀ u ∈ [Value.slice P' n d1, .slice Q' n d2], u.oneCell' = true) := Lib.hid (by
        intro u hu
        simp at hu
        rcases hu with rfl | rfl <;> rfl)
      clear zm zl zp zs zo sv bx by_ ax bA
      go_wp2_with (at_builtin; refine wpList_append_lies (wy.alloc (.cells #[.slice P' n d1, .slice Q' n d2] 31)) rfl _ _ 27 rfl w.heap.size 31 i0 _ 2 48 Tryz.underlying27 hi0 hz0 hz1 hz2 rfl (by decide) u3 M.length (hsOf Z) rfl OA.out ⟨wy.heap.size, 0, none⟩ 1 1 [.slice P' n d1, .slice Q' n d2] rfl rfl HN.out V1.out (by decide) h63 hby hba (wy.heap.size + 1) (by simp) ?_)
      intro g6 cap6 w6 ho6 hg6 hb6 hl6
      have S6 : Hid (Sx w w6 (.slice (some ⟨g6, 0, none⟩) (M.length + 1) cap6) n (M ++ [s])) := Lib.hid (SX.out.push BB.out SS.out HZ1.out HZ2.out HP.out ho6 hg6 HV.out hb6)
      clear ho6 hg6 hb6 hl6 OA HN SX HP HV
      go_wp2_with fail
      go_roundw
      case rel => exact ⟨k + 1, by omega, by go_num, by rw [ET.out]; exact S6.out⟩
      case measure => simp [intOf]; omega
    · obtain rfl : k = L.length := by omega
      have SE : Hid (Sx w wr u3 n L) := Lib.hid (by have := SX.out; rwa [List.take_of_length_le (Nat.le_refl _)] at this)
      clear SX
      go_wp2_with fail
      go_ret
      exact ⟨_, rfl, SE.out⟩
theorem swF_sf {n : Int} : ∀ y ∈ swF n, Sf n.toNat y.1 y.2 := by
  intro y hy
  unfold swF at hy
  split at hy
  · rename_i h
    exact ((sw_ok (n := n.toNat) (by omega) (by omega)).mem y).1 hy |>.1
  · simp at hy
theorem swF_len (n : Int) : (swF n).length ≤ 26 := by
  unfold swF
  split
  · rename_i h
    exact (sw_ok (n := n.toNat) (by omega) (by omega)).num
  · simp
theorem sw_impl (n : Int) (w : World) : Calls Tryz.prog 14 #[.int .i64 n] w (SWPost n (swF n) w) := by
  go_enter Tryz.func14, Tryz.ntmps14
  go_wp2_with fail
  refine (formsWith_any n w).mono ?_
  rintro e w1 ⟨v1, rfl, o1, b1⟩
  have O1 := Lib.hid o1; have B1 := Lib.hid b1
  clear o1 b1
  go_wp2_with fail
  refine (surfacesOf_any w.heap.size n.toNat v1 (swF n) _ O1.out swF_sf (by have := swF_len n; omega)).mono ?_
  rintro e w2 ⟨v2, rfl, sx⟩
  have SX := Lib.hid (sx.base B1.out)
  clear sx
  go_wp2_with fail
  go_ret
  exact ⟨_, rfl, SX.out⟩
end Go.Proofs.YtpmojmhamgcfmaaGreat.lst
