import Derived.Test.YtkkklpchkkdhfaaY10
import Derived.Test.YtkkklpchkkdhfaaY01
/-
  The specification's paths: text, squares, visits.
-/
namespace Go.Proofs.Ytkkklpchkkdhfaa.pth
open Go.ChangeShapes Go.WideShapes Go.ChangeAt Go.RowKit
open Go.Proofs.Ytkkklpchkkdhfaa.mem Go.Proofs.Ytkkklpchkkdhfaa.ints Go.Proofs.Ytkkklpchkkdhfaa.arr Go.Proofs.Ytkkklpchkkdhfaa.pm Go.Proofs.Ytkkklpchkkdhfaa.permOk Go.Proofs.Ytkkklpchkkdhfaa.permOf Go.Proofs.Ytkkklpchkkdhfaa.inv Go.Proofs.Ytkkklpchkkdhfaa.fns Go.Proofs.Ytkkklpchkkdhfaa.sf Go.Proofs.Ytkkklpchkkdhfaa.gl Go.Proofs.Ytkkklpchkkdhfaa.dr
set_option linter.unusedVariables false
set_option maxRecDepth 100000
set_option linter.unusedSimpArgs false

theorem ownk {w w' : World} {base : Nat} {e : TypeId} {size n : Nat} {v : Value} {xs : List Value} (h : w.ownsRow base e size v n xs) (hb : ∀ b, v.ownBlock = some b → w'.heap[b]? = w.heap[b]?) : w'.ownsRow base e size v n xs := by
  refine ⟨h.1, ?_⟩
  rcases h.2 with q | ⟨g, cap, cur, q1, q2, q3, q4⟩
  · exact .inl q
  · exact .inr ⟨g, cap, cur, q1, q2, by rw [hb g (by rw [q1]; rfl)]; exact q3, q4⟩
theorem rd_le (r u : List Int) (i p q : Int) : rdF r u i p q ≤ 24 := by
  cases h : okQ r u i p q
  · rw [rd_no h]; omega
  · exact (rd_pos h).2
theorem wd_app (A B : List UInt8) : wd A ++ wd B = wd (A ++ B) := by
  apply ByteArray.ext
  simp [wd]
theorem rp_wd (L : List UInt8) (k : Nat) : wd (rpL L k) ++ wd L = wd (rpL L (k + 1)) := wd_app _ _
/-- What PathText of the specification answers, whatever the square. -/
theorem pt_is (r u : List Int) (i p q : Int) : ∃ L : List UInt8, swF p q = wd L ∧ L.length ≤ 12 ∧ ptF r u i p q = wd (rpL L (rdF r u i p q)) := by
  cases hs : slB p q
  · refine ⟨[], swF_no hs, by simp, ?_⟩
    have : okQ r u i p q = false := by simp [okQ, hs]
    rw [rd_no this]
    simp [ptF, this, rpL]
  · obtain ⟨a, b, rfl, rfl, hab, _⟩ := sl_nat hs
    refine ⟨swL a b, swF_yes hs, by rw [swL_len]; exact hab, ?_⟩
    cases h : okQ r u i a b
    · rw [rd_no h]; simp [ptF, h, rpL]
    · simp [ptF, h]
set_option maxHeartbeats 2000000 in
theorem pt_spec (v : Value) (r u : List Int) (i p q : Int) (hi : Nat) (w : World) (hx : Srd w hi v r u) (hn : r.length ≤ 1048576) (hm : u.length ≤ 1048576) (i0 : -9223372036854775808 ≤ i) (i1 : i ≤ 9223372036854775807) (p0 : -9223372036854775808 ≤ p) (p1 : p ≤ 9223372036854775807) (q0 : -9223372036854775808 ≤ q) (q1' : q ≤ 9223372036854775807) :
    Calls Try.prog 31 #[v, .int .i64 i, .int .i64 p, .int .i64 q] w fun e w' => e = .returned (.string (ptF r u i p q)) ∧ Below w.heap.size w w' := by
  have HX := Lib.hid hx; clear hx
  obtain ⟨P, n, c, Q, m, d, rfl, q1, q2, e1, e2, ht, HR⟩ := HX.out.open
  obtain ⟨L, hL, l12, hP⟩ := pt_is r u i p q
  have HL := Lib.hid hL; have HP := Lib.hid hP
  have hk24 := rd_le r u i p q
  clear HR q1 q2 hL hP
  go_enter Try.func31, Try.ntmps31
  go_wp2_with fail
  refine (sw_spec p q _ p0 p1 q0 q1').mono ?_
  rintro e w1 ⟨rfl, b1⟩
  rw [HL.out]
  have A0 := Lib.hid ((Arr.new w [.slice P n c, .slice Q m d] 32 rfl).keep b1 (by simp))
  have B1 := Lib.hid (below1 _ _ b1)
  have hs1 : w.heap.size + 1 ≤ w1.heap.size := by have := b1.size; simpa using this
  clear b1
  obtain ⟨W, hW⟩ : ∃ W, W = wd L := ⟨_, rfl⟩
  rw [← hW]
  have HW := Lib.hid hW; clear hW
  go_wp2_with (refine wpList_load_row rfl 32 _ rfl w.heap.size rfl 32 #[.slice P n c, .slice Q m d] (0, 0) _ A0.out Try.underlying32 rfl size2 ?_)
  refine (pr_spec _ r u i p q hi _ (HX.out.keep (B1.out.mono ht) (Nat.le_refl _)) hn hm i0 i1 p0 p1 q0 q1').mono ?_
  rintro e w2 ⟨rfl, b1⟩
  replace B1 := Lib.hid (B1.out.trans (b1.mono B1.out.size))
  clear b1 A0
  generalize hK : rdF r u i p q = K at *
  go_wp2_with fail
  go_loopw [10, 11] (fun tv kv wr => ∃ k : Nat, k ≤ K ∧ kv = .int .i64 ((K - k : Nat) : Int) ∧ tv = .string (wd (rpL L k)) ∧ wr = w2) (fun _ kv _ => (intOf kv).toNat)
  case atStart => exact ⟨0, Nat.zero_le _, by simp, rfl, rfl⟩
  case round =>
    obtain ⟨k, hk, rfl, rfl, rfl⟩ := hrel
    obtain ⟨T, hT⟩ : ∃ T, T = wd (rpL L k) := ⟨_, rfl⟩
    have HT := Lib.hid hT
    rw [← hT]; clear hT
    by_cases hlt : k < K
    · obtain ⟨j, hj⟩ : ∃ j, K - k = j + 1 := ⟨K - k - 1, by omega⟩
      have hj2 : K - (k + 1) = j := by omega
      rw [hj, show ((j + 1 : Nat) : Int) = (j : Int) + 1 by omega]
      have d0 : decide ((0 : Int) < (j : Int) + 1) = true := decide_eq_true (by omega)
      have hw : IntKind.i64.wrap ((j : Int) + 1 - 1) = (j : Int) := by rw [IntWalk.i64_in _ (by omega)]; omega
      have hw2 : (j : Int) + 1 - 1 = (j : Int) := by omega
      have hw3 : IntKind.i64.wrap (j : Int) = (j : Int) := IntWalk.i64_in _ (by omega)
      have tz : T.size ≤ 300 := by rw [HT.out, wd_size, rpL_len]; have := Nat.mul_le_mul (show k ≤ 24 by omega) l12; omega
      have wz : W.size ≤ 12 := by rw [HW.out, wd_size]; exact l12
      have NX : Hid (T ++ W = wd (rpL L (k + 1))) := Lib.hid (by rw [HT.out, HW.out]; exact rp_wd L k)
      go_wp2_with fail
      go_roundw
      case rel => exact ⟨k + 1, by omega, by rw [hj2], by rw [← NX.out], by first | rfl | trivial⟩
      case measure => first | (simp [intOf]; done) | (simp [intOf]; omega)
    · obtain rfl : k = K := by omega
      have hz : k - k = 0 := by omega
      rw [hz]
      go_wp2_with fail
      go_ret
      exact ⟨by rw [HP.out, ← HT.out]; rfl, B1.out⟩
theorem ps_no {r u : List Int} {i p q : Int} (h : okQ r u i p q = false) : psF r u i p q = [] := by simp [psF, h]
theorem ps_yes {r u : List Int} {i p q : Int} (h : okQ r u i p q = true) : psF r u i p q = psK r u (swL p.toNat q.toNat) (peF r u p q) i (rdF r u i p q) := by simp [psF, h]
theorem psF_len (r u : List Int) (i p q : Int) : (psF r u i p q).length ≤ 300 := by
  cases h : okQ r u i p q
  · rw [ps_no h]; simp
  · obtain ⟨_, _, hs⟩ := okQ_facts h
    obtain ⟨a, b, rfl, rfl, hab, _⟩ := sl_nat hs
    rw [ps_yes h, psK_len, Int.toNat_natCast, Int.toNat_natCast, swL_len]
    have := Nat.mul_le_mul (rd_pos h).2 hab
    omega
theorem wd_get {L : List UInt8} {t : Nat} (h : t < (wd L).size) (h' : t < L.length) : (wd L)[t] = L[t] := rfl
/-- What PathSquares gives. -/
def PSPost (r u : List Int) (i p q : Int) (w : World) (e : Ending) (w' : World) : Prop :=
  ∃ A c, e = .returned (.tuple #[.slice A (psF r u i p q).length c, .bool (okQ r u i p q)]) ∧ w'.ownsRow w.heap.size 3 1 (.slice A (psF r u i p q).length c) (psF r u i p q).length (V (psF r u i p q)) ∧ Below w.heap.size w w'
theorem psp_no {r u : List Int} {i p q : Int} {w w' : World} (h : okQ r u i p q = false) (hb : Below w.heap.size w w') : PSPost r u i p q w (.returned (.tuple #[.slice none 0 0, .bool false])) w' := by
  refine ⟨none, 0, by rw [ps_no h, h]; rfl, ?_, hb⟩
  rw [ps_no h]
  exact ⟨rfl, .inl ⟨rfl, rfl⟩⟩
theorem rd_ix {w : World} {hi n : Nat} {A : Option Addr} {l : List Int} (h : Rd w hi A n (V l)) (hl : l.length = n) (h0 : 0 < n) : ∃ g off, A = some ⟨g, off, none⟩ ∧ g < hi ∧ ∀ x : Nat, x < n → w.cell? ⟨g, off + x, none⟩ = some (.int .i64 (l.getD x 0)) := by
  obtain ⟨g, off, e, hg, hc⟩ := h.2.2 h0
  refine ⟨g, off, e, hg, fun x hx => ?_⟩
  rw [hc x hx, V_getD (by omega)]
set_option maxHeartbeats 4000000 in
theorem ps_spec (v : Value) (r u : List Int) (i p q : Int) (hi : Nat) (w : World) (hx : Srd w hi v r u) (hn : r.length ≤ 1048576) (hm : u.length ≤ 1048576) (i0 : -9223372036854775808 ≤ i) (i1 : i ≤ 9223372036854775807) (p0 : -9223372036854775808 ≤ p) (p1 : p ≤ 9223372036854775807) (q0 : -9223372036854775808 ≤ q) (q1' : q ≤ 9223372036854775807) :
    Calls Try.prog 23 #[v, .int .i64 i, .int .i64 p, .int .i64 q] w (PSPost r u i p q w) := by
  have HX := Lib.hid hx; clear hx
  obtain ⟨P, n, c, Q, m, d, rfl, q1, q2, e1, e2, ht, HR⟩ := HX.out.open
  have L1 := Lib.hid q1; have L2 := Lib.hid q2
  clear HR q1 q2
  go_enter Try.func23, Try.ntmps23
  go_wp2_with fail
  refine (ok13 _ r u i p q hi _ (HX.out.keep ((Below.refl hi w).alloc ht _) (Nat.le_refl _)) hn hm i0 i1 p0 p1 q0 q1').mono ?_
  rintro e w1 ⟨rfl, b1⟩
  have A0 := Lib.hid ((Arr.new w [.slice P n c, .slice Q m d] 32 rfl).keep b1 (by simp))
  have B1 := Lib.hid (below1 _ _ b1)
  have hs1 : w.heap.size + 1 ≤ w1.heap.size := by have := b1.size; simpa using this
  clear b1
  cases hq : okQ r u i p q
  · have HN := Lib.hid hq; clear hq
    go_wp2_with fail
    go_ret2
    exact psp_no HN.out B1.out
  have HQ := Lib.hid hq
  obtain ⟨HS', ⟨i0', i1''⟩, hsl⟩ := okQ_facts hq
  have HS : Hid (Sf n r u) := Lib.hid (by rw [L1.out] at HS'; exact HS')
  have i1' : i < (n : Int) := by rw [L1.out] at i1''; exact i1''
  have LU : Hid (u.length = n) := Lib.hid HS.out.lu
  obtain rfl : n = m := by rw [← LU.out, L2.out]
  have n24 : n ≤ 24 := HS.out.small
  have h0n : 0 < n := HS.out.pos
  have HBJ : Hid (Bij n (peF r u p q)) := Lib.hid (by have := pe_bij hq; rwa [L1.out] at this)
  have PSE := Lib.hid (ps_yes hq)
  have hk24 := rd_le r u i p q
  obtain ⟨a, b, rfl, rfl, hab, h1, hg⟩ := sl_nat hsl
  have PE : Hid (peF r u (a : Int) (b : Int) = ev n r u (swL a b)) := Lib.hid (by unfold peF; rw [L1.out, Int.toNat_natCast, Int.toNat_natCast])
  obtain ⟨L, hL⟩ : ∃ L, L = swL a b := ⟨_, rfl⟩
  have l12 : L.length ≤ 12 := by rw [hL, swL_len]; exact hab
  have HW : Hid (swF (a : Int) (b : Int) = wd L) := Lib.hid (by rw [swF_yes hsl, hL])
  rw [Int.toNat_natCast, Int.toNat_natCast, ← hL] at PSE
  rw [← hL] at PE
  clear hq HS' i1'' hsl hg hL
  go_wp2_with fail
  refine (sw_spec a b _ (by omega) (by omega) (by omega) (by omega)).mono ?_
  rintro e w2 ⟨rfl, b1⟩
  rw [HW.out]
  replace A0 := Lib.hid (A0.out.keep b1 A0.out.lt)
  replace B1 := Lib.hid (B1.out.trans (b1.mono B1.out.size))
  have hs2 := b1.size
  clear b1
  have X2 : Hid (Srd w2 hi (.agg #[.slice P n c, .slice Q n d]) r u) := Lib.hid (HX.out.keep (B1.out.mono ht) (Nat.le_refl _))
  have ht2 := Nat.le_trans ht B1.out.size
  obtain ⟨gp, op, rfl, hgp, hcp⟩ := rd_ix (Srd.fst X2.out) L1.out h0n
  obtain ⟨gq, oq, rfl, hgq, hcq⟩ := rd_ix (Srd.snd X2.out) LU.out h0n
  have HCP := Lib.hid hcp; have HCQ := Lib.hid hcq; clear hcp hcq
  obtain ⟨W, hW⟩ : ∃ W, W = wd L := ⟨_, rfl⟩
  have WS : W.size = L.length := by rw [hW, wd_size]
  have WG : Hid (∀ (t : Nat) (h : t < W.size) (h' : t < L.length), W[t] = L[t]) := Lib.hid (by subst hW; intro t h h'; exact wd_get h h')
  rw [← hW]
  clear hW HW
  have A0' : Hid (Arr (w2.alloc (.cells #[] 3)) w.heap.size [.slice (some ⟨gp, op, none⟩) n c, .slice (some ⟨gq, oq, none⟩) n d] 32) := Lib.hid (A0.out.alloc _)
  have GR : Hid (Grows w2 (w2.alloc (.cells #[] 3)) (.slice (some ⟨w2.heap.size, 0, none⟩) 0 0) []) := Lib.hid (Grows.empty w2)
  go_wp2_with (refine wpList_load_row rfl 32 _ rfl w.heap.size rfl 32 #[.slice (some ⟨gp, op, none⟩) n c, .slice (some ⟨gq, oq, none⟩) n d] (0, 0) _ A0'.out Try.underlying32 rfl size2 ?_)
  generalize w2.alloc (.cells #[] 3) = w3 at *
  have ht3 : hi ≤ w2.heap.size := X2.out.top
  refine (pr_spec _ r u i a b hi _ (X2.out.keep (GR.out.below.mono ht3) (Nat.le_refl _)) hn hm i0 i1 (by omega) (by omega) (by omega) (by omega)).mono ?_
  rintro e w4 ⟨rfl, b1⟩
  obtain ⟨K, hK⟩ : ∃ K, K = rdF r u i (a : Int) (b : Int) := ⟨_, rfl⟩
  rw [← hK] at hk24 PSE ⊢
  clear hK
  have hs4 := b1.size
  have hs3 : w2.heap.size ≤ w3.heap.size := GR.out.below.size
  have GR4 : Hid (Grows w2 w4 (.slice (some ⟨w2.heap.size, 0, none⟩) 0 0) []) := Lib.hid ⟨by have h := ownk GR.out.own (fun b e => b1.block b (GR.out.own.lt b e).2); exact h, GR.out.below.trans (b1.mono hs3)⟩
  clear GR b1 A0'
  have HE : Hid (∀ x : Nat, x < n → (peF r u (a : Int) (b : Int)).getD x 0 = enW r u L (x : Int)) := Lib.hid (fun x hx => by have h := ev_en HS.out L (x := (x : Int)) (by omega) (by omega); rw [Int.toNat_natCast] at h; rw [PE.out]; exact h)
  clear PE
  generalize peF r u (a : Int) (b : Int) = E at *
  obtain ⟨i0_, hi0, hz0, hz1, hz2⟩ := info_parts infoI
  go_wp2_with fail
  go_loopw [11, 12, 13] (fun lv xv kv wr => ∃ k : Nat, k ≤ K ∧ kv = .int .i64 ((K - k : Nat) : Int) ∧ xv = .int .i64 (it E i k) ∧ Hid (Grows w2 wr lv (psK r u L E i k))) (fun _ _ kv _ => (intOf kv).toNat)
  case atStart => exact ⟨0, Nat.zero_le _, by simp, rfl, GR4⟩
  case round =>
    clear GR4
    obtain ⟨k, hk, rfl, rfl, HG⟩ := hrel
    by_cases hlt : k < K
    · obtain ⟨j, hj⟩ : ∃ j, K - k = j + 1 := ⟨K - k - 1, by omega⟩
      have hj2 : K - (k + 1) = j := by omega
      rw [hj, show ((j + 1 : Nat) : Int) = (j : Int) + 1 by omega]
      have d0 : decide ((0 : Int) < (j : Int) + 1) = true := decide_eq_true (by omega)
      have hw : IntKind.i64.wrap ((j : Int) + 1 - 1) = (j : Int) := by rw [IntWalk.i64_in _ (by omega)]; omega
      have hw2 : (j : Int) + 1 - 1 = (j : Int) := by omega
      have hw3 : IntKind.i64.wrap (j : Int) = (j : Int) := IntWalk.i64_in _ (by omega)
      have XI := it_in HBJ.out i0' i1' k
      obtain ⟨x0, hx0⟩ : ∃ x0, x0 = it E i k := ⟨_, rfl⟩
      rw [← hx0] at XI ⊢
      have HX0 := Lib.hid hx0; clear hx0
      obtain ⟨PK, hPK⟩ : ∃ l, l = psK r u L E i k := ⟨_, rfl⟩
      have LPK : PK.length ≤ 300 := by rw [hPK, psK_len]; have := Nat.mul_le_mul (show k ≤ 24 by omega) l12; omega
      rw [← hPK] at HG
      have HPK := Lib.hid hPK; clear hPK
      go_wp2_with fail
      go_loopw [11, 12, 14] (fun lv xv tv wr => ∃ t : Nat, t ≤ L.length ∧ tv = .int .i64 t ∧ xv = .int .i64 (enW r u (L.take t) x0) ∧ Hid (Grows w2 wr lv (PK ++ sqW r u (L.take t) x0))) (fun _ _ tv _ => L.length - (intOf tv).toNat)
      case atStart => exact ⟨0, Nat.zero_le _, rfl, rfl, Lib.hid (by simpa [sqW] using HG.out)⟩
      case round =>
        obtain ⟨t, ht_, rfl, rfl, HG2⟩ := hrel
        by_cases hlt2 : t < L.length
        · have YI := enW_in HS.out (L.take t) XI.1 XI.2
          obtain ⟨y, hy⟩ : ∃ y : Nat, enW r u (L.take t) x0 = (y : Int) := ⟨(enW r u (L.take t) x0).toNat, by omega⟩
          have TK : L.take (t + 1) = L.take t ++ [L[t]] := by rw [List.take_add_one, List.getElem?_eq_getElem hlt2]; rfl
          have NS : Hid (PK ++ sqW r u (L.take (t + 1)) x0 = (PK ++ sqW r u (L.take t) x0) ++ [(y : Int)]) := Lib.hid (by rw [TK, sqW_snoc, hy, List.append_assoc])
          have NE : Hid (enW r u (L.take (t + 1)) x0 = stW r u L[t] (y : Int)) := Lib.hid (by rw [TK, enW_snoc, hy])
          have LL : (PK ++ sqW r u (L.take t) x0).length = PK.length + t := by rw [List.length_append, sqW_len, List.length_take]; omega
          have hyn : y < n := by omega
          rw [hy]
          generalize PK ++ sqW r u (L.take t) x0 = LT at *
          have hts : t < W.size := by omega
          have GW := WG.out t hts hlt2
          clear TK hy YI
          have hsz4 := HG2.out.below.size
          have O4 := Lib.hid HG2.out.own
          generalize hN : LT.length = N4 at *
          go_wp2_with (at_builtin; refine wpList_append_one wr _ _ rfl _ _ 30 rfl w2.heap.size 3 i0_ _ 8 Try.underlying30 hi0 hz0 hz1 hz2 rfl _ _ _ rfl O4.out rfl rfl ?c4 (by decide) hsz4 ?_)
          case c4 => omega
          intro v' w' ho hg
          have HN : Hid (Grows w2 w' v' (PK ++ sqW r u (L.take (t + 1)) x0)) := Lib.hid (by rw [NS.out]; exact HG2.out.next ho (by first | exact hN.symm | omega) hg)
          have bw := HN.out.below
          have c0 := (A0.out.keep bw A0.out.lt).cell (k := 0) rfl
          have c1 := (A0.out.keep bw A0.out.lt).cell (k := 1) rfl
          have cp := HCP.out y hyn
          rw [← bw.cell (p := ⟨gp, op + y, none⟩) (show gp < _ by omega)] at cp
          have cq := HCQ.out y hyn
          rw [← bw.cell (p := ⟨gq, oq + y, none⟩) (show gq < _ by omega)] at cq
          clear ho hg O4 HG2 NS bw
          by_cases h114 : (W[t]).toNat = 114
          · have ST : Hid (enW r u (L.take (t + 1)) x0 = r.getD y 0) := Lib.hid (by rw [NE.out, ← GW]; unfold stW; rw [if_pos (UInt8.toNat_inj.1 h114), Int.toNat_natCast])
            clear GW NE
            go_wp2_with fail
            go_roundw
            case rel => exact ⟨t + 1, by omega, by go_num, by simp [ST.out, List.getD], HN⟩
            case measure => first | (simp [intOf]; done) | (simp [intOf]; omega)
          · have ST : Hid (enW r u (L.take (t + 1)) x0 = u.getD y 0) := Lib.hid (by rw [NE.out, ← GW]; unfold stW; rw [if_neg (fun e => h114 (by rw [e]; rfl)), Int.toNat_natCast])
            clear GW NE
            go_wp2_with fail
            go_roundw
            case rel => exact ⟨t + 1, by omega, by go_num, by simp [ST.out, List.getD], HN⟩
            case measure => first | (simp [intOf]; done) | (simp [intOf]; omega)
        · obtain rfl : t = L.length := by omega
          have HG3 : Hid (Grows w2 wr _ (psK r u L E i (k + 1))) := Lib.hid (by
            have h := HG2.out
            rw [List.take_length, HPK.out, HX0.out] at h
            exact h)
          have XE : Hid (enW r u (L.take L.length) x0 = it E i (k + 1)) := Lib.hid (by
            rw [List.take_length]
            show _ = E.getD (it E i k).toNat 0
            rw [HE.out _ (by rw [← HX0.out]; omega), HX0.out]
            congr 1
            rw [← HX0.out]; omega)
          have hts : ¬ L.length < W.size := by omega
          rw [XE.out]
          go_wp2_with fail
          go_roundw
          case rel => exact ⟨k + 1, by omega, by rw [hj2], rfl, HG3⟩
          case measure => first | (simp [intOf]; done) | (simp [intOf]; omega)
    · obtain rfl : k = K := by omega
      have hz : k - k = 0 := by omega
      rw [hz]
      have ow := HG.out.own
      obtain ⟨P5, c5, rfl⟩ := own_form ow
      have O5 := Lib.hid (own_low (base' := w.heap.size) ow (by omega))
      have BB := Lib.hid (B1.out.trans (HG.out.below.mono (by omega)))
      clear ow HG
      rw [← PSE.out] at O5
      rw [← PSE.out]
      go_wp2_with fail
      go_ret2
      exact ⟨P5, c5, by rw [HQ.out]; rfl, O5.out, BB.out⟩
theorem vi_no {r u : List Int} {i p q : Int} (h : okQ r u i p q = false) : viF r u i p q = [] := by simp [viF, h]
theorem vi_yes {r u : List Int} {i p q : Int} (h : okQ r u i p q = true) : viF r u i p q = vsK r.length (psF r u i p q) := by simp [viF, h]
def vs1 (v : List Int) (x : Int) : List Int := v.set x.toNat (v.getD x.toNat 0 + 1)
theorem vsK_snoc (n : Nat) (l : List Int) (x : Int) : vsK n (l ++ [x]) = vs1 (vsK n l) x := by simp [vsK, vs1]
theorem vsK_len (n : Nat) (l : List Int) : (vsK n l).length = n := by
  unfold vsK
  have : ∀ (l : List Int) (v : List Int), (l.foldl (fun v x => v.set x.toNat (v.getD x.toNat 0 + 1)) v).length = v.length := by
    intro l
    induction l with
    | nil => intro v; rfl
    | cons x l ih => intro v; rw [List.foldl_cons, ih, List.length_set]
  rw [this, List.length_replicate]
/-- Counts stay between 0 and the number of what was counted. -/
theorem vsK_fit (n : Nat) : ∀ (l v : List Int) (m : Nat), (∀ k : Nat, 0 ≤ v.getD k 0 ∧ v.getD k 0 ≤ m) → ∀ k : Nat, 0 ≤ (l.foldl (fun v x => v.set x.toNat (v.getD x.toNat 0 + 1)) v).getD k 0 ∧ (l.foldl (fun v x => v.set x.toNat (v.getD x.toNat 0 + 1)) v).getD k 0 ≤ m + l.length
  | [], v, m, h => by intro k; have := h k; simpa using this
  | x :: l, v, m, h => by
    intro k
    have ih := vsK_fit n l (v.set x.toNat (v.getD x.toNat 0 + 1)) (m + 1) (by
      intro j
      have hj := h j; have hx := h x.toNat
      by_cases e : x.toNat = j
      · subst e
        by_cases q : x.toNat < v.length
        · rw [List.getD_eq_getElem?_getD, List.getElem?_set_self q]; simp only [Option.getD_some]; omega
        · rw [List.getD_eq_getElem?_getD, List.getElem?_eq_none (by rw [List.length_set]; omega)]; simp only [Option.getD_none]; omega
      · rw [List.getD_eq_getElem?_getD, List.getElem?_set_ne e, ← List.getD_eq_getElem?_getD]; omega) k
    rw [List.foldl_cons]
    simp only [List.length_cons]
    omega
theorem vs_fit (n : Nat) (l : List Int) (k : Nat) : 0 ≤ (vsK n l).getD k 0 ∧ (vsK n l).getD k 0 ≤ l.length := by
  have := vsK_fit n l (List.replicate n 0) 0 (by
    intro j
    by_cases q : j < n
    · rw [List.getD_eq_getElem?_getD, List.getElem?_replicate, if_pos q]; simp
    · rw [List.getD_eq_getElem?_getD, List.getElem?_replicate, if_neg q]; simp) k
  simpa [vsK] using this
theorem psK_in {n : Nat} {r u : List Int} (s : Sf n r u) {L : List UInt8} {E : List Int} (hb : Bij n E) {i : Int} (i0 : 0 ≤ i) (i1 : i < n) : ∀ (k : Nat), ∀ y ∈ psK r u L E i k, 0 ≤ y ∧ y < n
  | 0 => by intro y hy; simp [psK] at hy
  | k + 1 => by
    intro y hy
    simp only [psK, List.mem_append] at hy
    rcases hy with hy | hy
    · exact psK_in s hb i0 i1 k y hy
    · have a := it_in hb i0 i1 k
      exact sqW_in s L a.1 a.2 y hy
set_option maxHeartbeats 4000000 in
theorem vi_spec (v : Value) (r u : List Int) (i p q : Int) (hi : Nat) (w : World) (hx : Srd w hi v r u) (hn : r.length ≤ 1048576) (hm : u.length ≤ 1048576) (i0 : -9223372036854775808 ≤ i) (i1 : i ≤ 9223372036854775807) (p0 : -9223372036854775808 ≤ p) (p1 : p ≤ 9223372036854775807) (q0 : -9223372036854775808 ≤ q) (q1' : q ≤ 9223372036854775807) :
    Calls Try.prog 32 #[v, .int .i64 i, .int .i64 p, .int .i64 q] w (Gives (viF r u i p q) w) := by
  have HX := Lib.hid hx; clear hx
  obtain ⟨P, n, c, Q, m, d, rfl, q1, q2, e1, e2, ht, HR⟩ := HX.out.open
  have L1 := Lib.hid q1; have L2 := Lib.hid q2
  clear HR q1 q2
  obtain ⟨i0_, hi0, hz0, hz1, hz2⟩ := info_parts infoI
  have HZ2 := Lib.hid hz2; clear hz2
  go_enter Try.func32, Try.ntmps32
  go_wp2_with fail
  refine (ps_spec _ r u i p q hi _ (HX.out.keep ((Below.refl hi w).alloc ht _) (Nat.le_refl _)) hn hm i0 i1 p0 p1 q0 q1').mono ?_
  rintro e w1 ⟨A1, c1, rfl, o1, b1⟩
  have A0 := Lib.hid ((Arr.new w [.slice P n c, .slice Q m d] 32 rfl).keep b1 (by simp))
  have B1 := Lib.hid (below1 _ _ b1)
  have hs1 : w.heap.size + 1 ≤ w1.heap.size := by have := b1.size; simpa using this
  have O1 := Lib.hid (Row.of_own o1).rd
  clear b1 o1
  have hl300 := psF_len r u i p q
  cases hq : okQ r u i p q
  · have HN := Lib.hid (vi_no hq); clear hq
    go_wp2_with fail
    go_ret
    rw [HN.out]
    exact gives_nil B1.out
  have HF : Hid (viF r u i p q = vsK n (psF r u i p q)) := Lib.hid (by rw [vi_yes hq, L1.out])
  obtain ⟨HS', ⟨i0', i1''⟩, hsl⟩ := okQ_facts hq
  have n24 : n ≤ 24 := by have := HS'.small; rw [L1.out] at this; exact this
  have PIN : Hid (∀ y ∈ psF r u i p q, 0 ≤ y ∧ y < n) := Lib.hid (by
    rw [ps_yes hq]
    have hb := pe_bij hq
    rw [L1.out] at hb HS' i1''
    exact psK_in HS' hb i0' i1'' _)
  clear hq HS' i1'' hsl i0'
  generalize hPS : psF r u i p q = PS at *
  obtain ⟨N, hN⟩ : ∃ N, PS.length = N := ⟨_, rfl⟩
  rw [hN] at hl300 O1 ⊢
  have HN := Lib.hid hN; clear hN hPS
  have c0 := A0.out.cell (k := 0) rfl
  go_wp2_with (at_make; refine wpList_make_full _ rfl _ _ 30 rfl w1.heap.size 3 i0_ _ 1 Try.underlying30 hi0 hz0 hz1 _ _ _ _ n rfl rfl rfl rfl ?b2 ?b3 (Nat.le_refl _) ?_)
  case b2 => rw [HZ2.out]; omega
  case b3 => unfold maxLen; omega
  intro w2 hown hg
  have hb1 : Below w1.heap.size w1 w2 := (Below.refl _ _).grown hg (Nat.le_refl _) (by simp)
  have HM : Hid (Made n w1 w2 (vsK n (PS.take 0))) := Lib.hid ⟨by simpa [vsK, V, toList_madeCells_one] using hown, hb1⟩
  clear hown hg hb1 c0
  go_wp2_with fail
  go_loopw [30] (fun kv wr => ∃ k : Nat, k ≤ N ∧ kv = .int .i64 k ∧ Made n w1 wr (vsK n (PS.take k))) (fun kv _ => N - (intOf kv).toNat)
  case atStart => exact ⟨0, Nat.zero_le _, rfl, HM.out⟩
  case round =>
    obtain ⟨k, hk, rfl, hm⟩ := hrel
    have HR := Lib.hid hm; clear hm HM
    by_cases hlt : k < N
    · obtain ⟨g, off, uu, rfl, hgl, hxu, hcx⟩ := O1.out.at_ hlt
      have hkl : k < PS.length := by rw [HN.out]; exact hlt
      rw [show (V PS)[k]? = some (.int .i64 PS[k]) by simp [V, List.getElem?_eq_getElem hkl]] at hxu
      obtain rfl := Option.some.inj hxu
      have hin := PIN.out PS[k] (List.getElem_mem _)
      obtain ⟨z, hz⟩ : ∃ z : Nat, PS[k] = (z : Int) := ⟨PS[k].toNat, by omega⟩
      have hzn : z < n := by omega
      have TK : Hid (vsK n (PS.take (k + 1)) = (vsK n (PS.take k)).set z ((vsK n (PS.take k)).getD z 0 + 1)) := Lib.hid (by
        rw [List.take_add_one, List.getElem?_eq_getElem hkl, hz]
        exact vsK_snoc n (PS.take k) (z : Int))
      have ft := vs_fit n (PS.take k) z
      rw [List.length_take] at ft
      rw [hz] at hcx
      have hcx' := hcx
      rw [← HR.out.2.cell (p := ⟨g, off + k, none⟩) (show g < w1.heap.size by omega)] at hcx'
      have hc := HR.out.cell hzn
      have hf := HR.out.1.frozenAt z
      obtain ⟨cv, hcv⟩ : ∃ cv, (vsK n (PS.take k)).getD z 0 = cv := ⟨_, rfl⟩
      rw [hcv] at hc ft
      have HST : Hid (Made n w1 (wr.setCell ⟨w1.heap.size, z, none⟩ (.int .i64 (cv + 1))) (vsK n (PS.take (k + 1)))) := Lib.hid (by rw [TK.out, hcv]; exact HR.out.set_ z _)
      have hw : IntKind.i64.wrap (cv + 1) = cv + 1 := IntWalk.i64_in _ (by omega)
      have hw2 : wrap64 (cv + 1) = cv + 1 := IntWalk.wrap64_in _ (by omega)
      clear hxu hz hcv TK hcx hkl hin
      go_wp2
      go_roundw
      case rel => exact ⟨k + 1, by omega, by go_num, HST.out⟩
      case measure => first | (simp [intOf]; done) | (simp [intOf]; omega)
    · obtain rfl : k = N := by omega
      have e : PS.take k = PS := List.take_of_length_le (by rw [HN.out]; exact Nat.le_refl _)
      rw [e] at HR
      go_wp2
      go_ret
      refine ⟨_, rfl, ?_, B1.out.trans (HR.out.2.mono (by omega))⟩
      rw [HF.out, vsK_len]
      exact own_low HR.out.1 (by omega)
end Go.Proofs.Ytkkklpchkkdhfaa.pth

/-
  Slices of slices of ints: rows of headers, each with a row of its own; the laws' helpers eqIntSS, markIntSS, heldIntSS.
-/
namespace Go.Proofs.Ytkkklpchkkdhfaa.mat
open Go.ChangeShapes Go.WideShapes Go.ChangeAt Go.RowKit
open Go.Proofs.Ytkkklpchkkdhfaa.mem Go.Proofs.Ytkkklpchkkdhfaa.ints
set_option linter.unusedVariables false
set_option maxRecDepth 100000

/-- The headers hs have the rows xss; those that are not empty lie in different blocks bl i, from lo on and below hi, none of them in ex. -/
structure Hs (w : World) (lo hi : Nat) (ex : Nat → Prop) (bl : Nat → Nat) (hs : List Value) (xss : List (List Int)) : Prop where
  len : hs.length = xss.length
  top : hi ≤ w.heap.size
  row : ∀ i xs, xss[i]? = some xs → ∃ A c, hs[i]? = some (.slice A xs.length c) ∧ (0 < xs.length → lo ≤ bl i ∧ bl i < hi ∧ ¬ ex (bl i) ∧ Row w (bl i) (bl i + 1) A xs.length (V xs))
  ne : ∀ i j xs ys, xss[i]? = some xs → xss[j]? = some ys → 0 < xs.length → 0 < ys.length → i ≠ j → bl i ≠ bl j

theorem Row.block {w w' : World} {g n : Nat} {A : Option Addr} {xs : List Value} (h : Row w g (g + 1) A n xs) (hb : w'.heap[g]? = w.heap[g]?) (hs : w.heap.size ≤ w'.heap.size) : Row w' g (g + 1) A n xs := by
  refine ⟨h.1, Nat.le_trans h.2.1 hs, fun hn => ?_⟩
  obtain ⟨g', off, e, h1, h2, hc⟩ := h.2.2 hn
  obtain rfl : g' = g := by omega
  refine ⟨g', off, e, h1, h2, fun j hj => ?_⟩
  rw [World.cell?_of_block (w := w) (a := ⟨g', off + j, none⟩) hb, World.frozen?_of_block (w := w) (a := ⟨g', off + j, none⟩) hb]
  exact hc j hj
theorem Hs.keep {w w' : World} {lo hi : Nat} {ex : Nat → Prop} {bl : Nat → Nat} {hs : List Value} {xss : List (List Int)} (h : Hs w lo hi ex bl hs xss) (hs' : w.heap.size ≤ w'.heap.size)
    (hk : ∀ b, lo ≤ b → b < hi → ¬ ex b → w'.heap[b]? = w.heap[b]?) : Hs w' lo hi ex bl hs xss := by
  refine ⟨h.len, Nat.le_trans h.top hs', fun i xs hx => ?_, h.ne⟩
  obtain ⟨A, c, e, hr⟩ := h.row i xs hx
  refine ⟨A, c, e, fun hp => ?_⟩
  obtain ⟨h1, h2, h3, h4⟩ := hr hp
  exact ⟨h1, h2, h3, Row.block h4 (hk _ h1 h2 h3) hs'⟩
theorem Hs.nil (w : World) (lo hi : Nat) (ex : Nat → Prop) (bl : Nat → Nat) (h : hi ≤ w.heap.size) : Hs w lo hi ex bl [] [] :=
  ⟨rfl, h, fun i xs hx => by simp at hx, fun i j xs ys hx => by simp at hx⟩
theorem Hs.exs {w : World} {lo hi : Nat} {ex ex' : Nat → Prop} {bl : Nat → Nat} {hs : List Value} {xss : List (List Int)} (h : Hs w lo hi ex bl hs xss) (he : ∀ b, lo ≤ b → b < hi → ¬ ex b → ¬ ex' b) : Hs w lo hi ex' bl hs xss := by
  refine ⟨h.len, h.top, fun i xs hx => ?_, h.ne⟩
  obtain ⟨A, c, e, hr⟩ := h.row i xs hx
  exact ⟨A, c, e, fun hp => ⟨(hr hp).1, (hr hp).2.1, he _ (hr hp).1 (hr hp).2.1 (hr hp).2.2.1, (hr hp).2.2.2⟩⟩
theorem Hs.wider {w : World} {lo hi lo' hi' : Nat} {ex : Nat → Prop} {bl : Nat → Nat} {hs : List Value} {xss : List (List Int)} (h : Hs w lo hi ex bl hs xss) (h0 : lo' ≤ lo) (h1 : hi ≤ hi') (h2 : hi' ≤ w.heap.size) : Hs w lo' hi' ex bl hs xss := by
  refine ⟨h.len, h2, fun i xs hx => ?_, h.ne⟩
  obtain ⟨A, c, e, hr⟩ := h.row i xs hx
  exact ⟨A, c, e, fun hp => ⟨by have := (hr hp).1; omega, by have := (hr hp).2.1; omega, (hr hp).2.2⟩⟩
theorem Hs.snoc {w : World} {lo hi : Nat} {ex : Nat → Prop} {bl : Nat → Nat} {hs : List Value} {xss : List (List Int)} (h : Hs w lo hi ex bl hs xss) {g c : Nat} {A : Option Addr} {xs : List Int} (hg : hi ≤ g) (hlo : lo ≤ hi) (hx : ¬ ex g) (hr : Row w g (g + 1) A xs.length (V xs)) :
    Hs w lo (g + 1) ex (fun i => if i = xss.length then g else bl i) (hs ++ [.slice A xs.length c]) (xss ++ [xs]) := by
  have hl := h.len
  refine ⟨by simp [hl], hr.2.1, fun i ys hy => ?_, fun i j ys zs hy hz y0 z0 hij => ?_⟩
  · rw [List.getElem?_append] at hy
    by_cases hi' : i < xss.length
    · rw [if_pos hi'] at hy
      obtain ⟨A', c', e, hr'⟩ := h.row i ys hy
      refine ⟨A', c', ?_, fun hp => ?_⟩
      · rw [List.getElem?_append_left (by omega)]; exact e
      · rw [if_neg (by omega)]
        obtain ⟨q1, q2, q3, q4⟩ := hr' hp
        exact ⟨q1, by omega, q3, q4⟩
    · rw [if_neg hi'] at hy
      have e0 : i = xss.length := by
        rcases Nat.lt_or_ge (i - xss.length) 1 with q | q
        · omega
        · rw [List.getElem?_eq_none (by simpa using q)] at hy; cases hy
      subst e0
      simp at hy
      subst hy
      refine ⟨A, c, ?_, fun hp => ?_⟩
      · rw [List.getElem?_append_right (by omega), hl]; simp
      · rw [if_pos rfl]
        exact ⟨by omega, by omega, hx, hr⟩
  · have hlt : ∀ (q : Nat) (us : List Int), (xss ++ [xs])[q]? = some us → q ≠ xss.length → xss[q]? = some us := by
      intro q us hq hne
      rw [List.getElem?_append] at hq
      by_cases hq' : q < xss.length
      · rw [if_pos hq'] at hq; exact hq
      · rw [if_neg hq', List.getElem?_eq_none (by simp; omega)] at hq; cases hq
    by_cases e1 : i = xss.length
    · by_cases e2 : j = xss.length
      · omega
      · simp only [if_pos e1, if_neg e2]
        obtain ⟨A', c', e, hr'⟩ := h.row j zs (hlt j zs hz e2)
        have := (hr' z0).2.1
        omega
    · by_cases e2 : j = xss.length
      · simp only [if_pos e2, if_neg e1]
        obtain ⟨A', c', e, hr'⟩ := h.row i ys (hlt i ys hy e1)
        have := (hr' y0).2.1
        omega
      · simp only [if_neg e1, if_neg e2]
        exact h.ne i j ys zs (hlt i ys hy e1) (hlt j zs hz e2) y0 z0 hij
/-- A row, alone: where it may be written. -/
theorem Hs.one {w : World} {lo hi : Nat} {ex : Nat → Prop} {bl : Nat → Nat} {hs : List Value} {xss : List (List Int)} (h : Hs w lo hi ex bl hs xss) {i : Nat} {xs : List Int} (hx : xss[i]? = some xs) :
    ∃ A c l u, hs[i]? = some (.slice A xs.length c) ∧ Row w l u A xs.length (V xs) ∧ (0 < xs.length → lo ≤ l ∧ u ≤ hi ∧ l = bl i ∧ u = l + 1 ∧ ¬ ex l) ∧ (xs.length = 0 → l = 0 ∧ u = 0) := by
  obtain ⟨A, c, e, hr⟩ := h.row i xs hx
  rcases Nat.eq_zero_or_pos xs.length with h0 | h0
  · refine ⟨A, c, 0, 0, e, ⟨by simp [V], Nat.zero_le _, fun q => by omega⟩, fun q => by omega, fun _ => ⟨rfl, rfl⟩⟩
  · obtain ⟨q1, q2, q3, q4⟩ := hr h0
    exact ⟨A, c, bl i, bl i + 1, e, q4, fun _ => ⟨q1, by omega, rfl, rfl, q3⟩, fun q => by omega⟩
theorem Hs.set_ {w w' : World} {lo hi : Nat} {ex : Nat → Prop} {bl : Nat → Nat} {hs : List Value} {xss : List (List Int)} (h : Hs w lo hi ex bl hs xss) {i l u c : Nat} {A : Option Addr} {xs ys : List Int} (hx : xss[i]? = some xs) (hl : ys.length = xs.length)
    (he : hs[i]? = some (.slice A xs.length c)) (hp : 0 < xs.length → lo ≤ l ∧ u ≤ hi ∧ l = bl i ∧ u = l + 1 ∧ ¬ ex l) (hr : Row w' l u A xs.length (V ys)) (ho : Out l u w w') (h0 : xs.length = 0 → l = 0 ∧ u = 0) : Hs w' lo hi ex bl hs (xss.set i ys) := by
  have hi' : i < xss.length := (List.getElem?_eq_some_iff.1 hx).1
  have key : ∀ j zs, (xss.set i ys)[j]? = some zs → ∃ zs0, xss[j]? = some zs0 ∧ zs0.length = zs.length ∧ (j ≠ i → zs0 = zs) := by
    intro j zs hz
    by_cases e : j = i
    · subst e
      rw [List.getElem?_set_self hi'] at hz
      obtain rfl := Option.some.inj hz
      exact ⟨xs, hx, hl.symm, fun q => absurd rfl q⟩
    · rw [List.getElem?_set_ne (by omega)] at hz
      exact ⟨zs, hz, rfl, fun _ => rfl⟩
  refine ⟨by simp [h.len], Nat.le_trans h.top ho.size, fun j zs hz => ?_, fun j k zs us hz hu z0 u0 hjk => ?_⟩
  · by_cases e : j = i
    · subst e
      rw [List.getElem?_set_self hi'] at hz
      obtain rfl := Option.some.inj hz
      refine ⟨A, c, by rw [hl]; exact he, fun q => ?_⟩
      rw [hl] at q
      obtain ⟨a1, a2, a3, a4, a5⟩ := hp q
      subst a4; subst a3
      exact ⟨a1, by omega, a5, by rw [hl]; exact hr⟩
    · rw [List.getElem?_set_ne (by omega)] at hz
      obtain ⟨A', c', e', hr'⟩ := h.row j zs hz
      refine ⟨A', c', e', fun q => ?_⟩
      obtain ⟨a1, a2, a3, a4⟩ := hr' q
      refine ⟨a1, a2, a3, Row.block a4 (ho.block _ (by have := h.top; omega) ?_) ho.size⟩
      rcases Nat.eq_zero_or_pos xs.length with x0 | x0
      · obtain ⟨b1, b2⟩ := h0 x0; right; omega
      · obtain ⟨b1, b2, b3, b4, b5⟩ := hp x0
        have := h.ne i j xs zs hx hz x0 q (by omega)
        omega
  · obtain ⟨z1, a1, a2, _⟩ := key j zs hz
    obtain ⟨u1, b1, b2, _⟩ := key k us hu
    exact h.ne j k z1 u1 a1 b1 (by omega) (by omega) hjk

/-- '.slice A n c' reads as the rows xss; all of it lies from lo on and below hi, each row in a block of its own. -/
def Mat (w : World) (lo hi : Nat) (A : Option Addr) (n : Nat) (xss : List (List Int)) : Prop :=
  xss.length = n ∧ hi ≤ w.heap.size ∧ ∃ hs bl G, Hs w lo hi (fun b => b = G) bl hs xss ∧ (0 < n → lo ≤ G ∧ G < hi ∧ Row w G (G + 1) A n hs)
theorem Mat.keep {w w' : World} {lo hi n B : Nat} {A : Option Addr} {xss : List (List Int)} (h : Mat w lo hi A n xss) (hb : Below B w w') (hB : hi ≤ B) : Mat w' lo hi A n xss := by
  obtain ⟨h1, h2, hs, bl, G, h3, h4⟩ := h
  refine ⟨h1, Nat.le_trans h2 hb.size, hs, bl, G, h3.keep hb.size (fun b _ q _ => hb.block b (by omega)), fun hn => ?_⟩
  obtain ⟨q1, q2, q3⟩ := h4 hn
  exact ⟨q1, q2, Row.block q3 (hb.block G (by omega)) hb.size⟩
theorem Mat.out {w w' : World} {lo hi lo' hi' n : Nat} {A : Option Addr} {xss : List (List Int)} (h : Mat w lo hi A n xss) (ho : Out lo' hi' w w') (hd : hi ≤ lo' ∨ hi' ≤ lo) : Mat w' lo hi A n xss := by
  obtain ⟨h1, h2, hs, bl, G, h3, h4⟩ := h
  refine ⟨h1, Nat.le_trans h2 ho.size, hs, bl, G, h3.keep ho.size (fun b p q _ => ho.block b (by omega) (by omega)), fun hn => ?_⟩
  obtain ⟨q1, q2, q3⟩ := h4 hn
  exact ⟨q1, q2, Row.block q3 (ho.block G (by omega) (by omega)) ho.size⟩
theorem Mat.wider {w : World} {lo hi lo' hi' n : Nat} {A : Option Addr} {xss : List (List Int)} (h : Mat w lo hi A n xss) (h0 : lo' ≤ lo) (h1 : hi ≤ hi') (h2 : hi' ≤ w.heap.size) : Mat w lo' hi' A n xss := by
  obtain ⟨a1, a2, hs, bl, G, h3, h4⟩ := h
  refine ⟨a1, h2, hs, bl, G, h3.wider h0 h1 h2, fun hn => ?_⟩
  obtain ⟨q1, q2, q3⟩ := h4 hn
  exact ⟨by omega, by omega, q3⟩
theorem Mat.nil (w : World) (lo hi : Nat) (A : Option Addr) (h : hi ≤ w.heap.size) : Mat w lo hi A 0 [] := ⟨rfl, h, [], fun _ => 0, 0, Hs.nil _ _ _ _ _ h, fun q => by omega⟩
theorem Mat.at_ {w : World} {lo hi n k : Nat} {A : Option Addr} {xss : List (List Int)} (h : Mat w lo hi A n xss) (hk : k < n) :
    ∃ G off A' c xs l u, A = some ⟨G, off, none⟩ ∧ xss[k]? = some xs ∧ w.cell? ⟨G, off + k, none⟩ = some (.slice A' xs.length c) ∧ Row w l u A' xs.length (V xs) ∧
      (∀ w' ys, ys.length = xs.length → Row w' l u A' xs.length (V ys) → Out l u w w' → Mat w' lo hi A n (xss.set k ys) ∧ Out lo hi w w') := by
  obtain ⟨h1, h2, hs, bl, G, h3, h4⟩ := h
  obtain ⟨q1, q2, q3⟩ := h4 (by omega)
  have hx : xss[k]? = some xss[k] := List.getElem?_eq_getElem (by omega)
  obtain ⟨A', c, l, u, e, hr, hp, hz⟩ := h3.one hx
  obtain ⟨g, off, v, rfl, g1, g2, hv, hc, _⟩ := q3.at_ hk
  obtain rfl : g = G := by omega
  rw [e] at hv
  obtain rfl := Option.some.inj hv
  refine ⟨g, off, A', c, xss[k], l, u, rfl, hx, hc, hr, fun w' ys hl hr' ho => ?_⟩
  refine ⟨⟨by simpa using h1, Nat.le_trans h2 ho.size, hs, bl, g, h3.set_ hx hl e hp hr' ho hz, fun _ => ⟨q1, q2, Row.block q3 (ho.block _ (by omega) ?_) ho.size⟩⟩, ?_⟩
  · rcases Nat.eq_zero_or_pos (xss[k]).length with x0 | x0
    · obtain ⟨b1, b2⟩ := hz x0; right; omega
    · obtain ⟨b1, b2, b3, b4, b5⟩ := hp x0; omega
  · rcases Nat.eq_zero_or_pos (xss[k]).length with x0 | x0
    · obtain ⟨b1, b2⟩ := hz x0
      exact ⟨ho.os, ho.tape, ho.output, ho.size, fun j hj _ => ho.block j hj (by omega)⟩
    · obtain ⟨b1, b2, b3, b4, b5⟩ := hp x0
      exact ho.wider b1 b2

def tot (xss : List (List Int)) : Nat := (xss.map List.length).sum
theorem tot_row {xss : List (List Int)} {k : Nat} {xs : List Int} (h : xss[k]? = some xs) : xs.length ≤ tot xss := by
  have hm := List.mem_of_getElem? h
  clear h
  unfold tot
  induction xss with
  | nil => simp at hm
  | cons a t ih =>
    rcases List.mem_cons.1 hm with rfl | hm
    · simp
    · have := ih hm; simp; omega
theorem tot_take {xss : List (List Int)} {k : Nat} {xs : List Int} (h : xss[k]? = some xs) : tot (xss.take (k + 1)) = tot (xss.take k) + xs.length := by
  unfold tot; rw [List.take_add_one, h]; simp
theorem tot_le (xss : List (List Int)) (k : Nat) : tot (xss.take k) ≤ tot xss := by
  have : tot xss = tot (xss.take k) + tot (xss.drop k) := by
    unfold tot; rw [← List.sum_append, ← List.map_append, List.take_append_drop]
  omega
def eqm (xss yss : List (List Int)) : Bool := decide (xss = yss)
theorem eqm_self (xss : List (List Int)) : eqm xss xss = true := by simp [eqm]
def SameM (xss yss : List (List Int)) (k : Nat) : Prop := ∀ j, j < k → xss[j]? = yss[j]?
theorem eqm_no {xss yss : List (List Int)} {k : Nat} {xs ys : List Int} (h1 : xss[k]? = some xs) (h2 : yss[k]? = some ys) (h : eqi xs ys = false) : eqm xss yss = false := by
  unfold eqm; rw [decide_eq_false_iff_not]; rintro rfl
  rw [h1] at h2
  obtain rfl := Option.some.inj h2
  simp [eqi] at h
theorem eqm_len {xss yss : List (List Int)} (h : xss.length ≠ yss.length) : eqm xss yss = false := by
  unfold eqm; rw [decide_eq_false_iff_not]; rintro rfl; exact h rfl
theorem eqm_yes {xss yss : List (List Int)} {n : Nat} (h1 : xss.length = n) (h2 : yss.length = n) (h : SameM xss yss n) : eqm xss yss = true := by
  unfold eqm; rw [decide_eq_true_iff]
  refine List.ext_getElem? fun i => ?_
  by_cases hi : i < n
  · exact h i hi
  · rw [List.getElem?_eq_none (by omega), List.getElem?_eq_none (by omega)]
theorem SameM.step {xss yss : List (List Int)} {k : Nat} {xs ys : List Int} (h : SameM xss yss k) (h1 : xss[k]? = some xs) (h2 : yss[k]? = some ys) (he : eqi xs ys = true) : SameM xss yss (k + 1) := by
  intro j hj
  by_cases e : j = k
  · subst e
    have : xs = ys := by simpa [eqi] using he
    rw [h1, h2, this]
  · exact h j (by omega)

theorem drawn_trans {a b c : World} (h : Drawn a b) (k : Drawn b c) : Drawn a c := by
  obtain ⟨m, rfl⟩ := h; obtain ⟨n, rfl⟩ := k; exact ⟨m + n, by simp⟩
theorem drawn_rd {w w' : World} {hi n : Nat} {A : Option Addr} {xs : List Value} (h : Drawn w w') (r : Rd w hi A n xs) : Rd w' hi A n xs := by
  obtain ⟨m, rfl⟩ := h; exact r

theorem eq_quiet {A : Option Addr} {n c : Nat} {B : Option Addr} {m d : Nat} {xs ys : List Int} {h1 h2 : Nat} {w w' : World} (hw : Drawn w w') (q : Nat)
    (hx : Rd w h1 A n (V xs)) (hy : Rd w h2 B m (V ys)) (hn : n ≤ maxLen) (hm : m ≤ maxLen) :
    Calls Try.prog 25 #[.slice A n c, .slice B m d] (w'.drewN q) fun e w'' => e = .returned (.bool (eqi xs ys)) ∧ ∃ j, w'' = w'.drewN j :=
  (eq_any A n c B m d xs ys h1 h2 (w'.drewN q) (drawn_rd (hw.more q) hx) (drawn_rd (hw.more q) hy) hn hm).mono fun _ _ ⟨he, j, hj⟩ => ⟨he, q + j, by rw [hj, World.drewN_drewN]⟩
/-- The rows' numbers from k on. -/
def marksm (k : Int) : List (List Int) → List (List Int)
  | [] => []
  | xs :: t => Marks k xs.length :: marksm (k + xs.length) t
theorem marks_len (k : Int) (n : Nat) : (Marks k n).length = n := by simp [Marks]
theorem marksm_len (xss : List (List Int)) : ∀ k, (marksm k xss).length = xss.length := by
  induction xss with
  | nil => intro k; rfl
  | cons a t ih => intro k; simp [marksm, ih]
theorem marksm_tot (xss : List (List Int)) : ∀ k, tot (marksm k xss) = tot xss := by
  induction xss with
  | nil => intro k; rfl
  | cons a t ih => intro k; have := ih (k + a.length); simp only [tot, marksm, List.map_cons, List.sum_cons, marks_len] at *; omega
theorem marksm_at (xss : List (List Int)) : ∀ (k : Int) (j : Nat) (xs : List Int), xss[j]? = some xs → (marksm k xss)[j]? = some (Marks (k + tot (xss.take j)) xs.length) := by
  induction xss with
  | nil => intro k j xs h; simp at h
  | cons a t ih =>
    intro k j xs h
    cases j with
    | zero => simp at h; subst h; simp [marksm, tot]
    | succ j =>
      simp at h
      have := ih (k + a.length) j xs h
      simp only [marksm, List.getElem?_cons_succ, List.take_succ_cons]
      rw [this]
      simp only [tot, List.map_cons, List.sum_cons]
      congr 2
      omega
/-- The first j rows are marked. -/
def mix (k : Int) (xss : List (List Int)) (j : Nat) : List (List Int) := (marksm k xss).take j ++ xss.drop j
theorem mix_zero (k : Int) (xss : List (List Int)) : mix k xss 0 = xss := by simp [mix]
theorem mix_all (k : Int) (xss : List (List Int)) {n : Nat} (h : xss.length = n) : mix k xss n = marksm k xss := by
  unfold mix; rw [List.take_of_length_le (by rw [marksm_len]; omega), List.drop_of_length_le (by omega), List.append_nil]
theorem mix_at {k : Int} {xss : List (List Int)} {j : Nat} (h : j < xss.length) : (mix k xss j)[j]? = xss[j]? := by
  unfold mix
  have hl : ((marksm k xss).take j).length = j := by rw [List.length_take, marksm_len]; omega
  rw [List.getElem?_append_right (by omega), hl]
  simp
theorem mix_step {k : Int} {xss : List (List Int)} {j : Nat} {xs : List Int} (h : xss[j]? = some xs) : (mix k xss j).set j (Marks (k + tot (xss.take j)) xs.length) = mix k xss (j + 1) := by
  have hj : j < xss.length := (List.getElem?_eq_some_iff.1 h).1
  have hl : ((marksm k xss).take j).length = j := by rw [List.length_take, marksm_len]; omega
  unfold mix
  rw [List.take_add_one, marksm_at xss k j xs h, List.set_append_right _ _ (by omega), hl, Nat.sub_self]
  have : xss.drop j = xs :: xss.drop (j + 1) := by
    rw [List.drop_eq_getElem_cons hj]
    congr 1
    rw [List.getElem?_eq_getElem hj] at h
    exact Option.some.inj h
  rw [this]
  simp
def MarkRelM (A : Option Addr) (n lo hi : Nat) (k : Int) (xss : List (List Int)) (w wr : World) (j : Nat) : Prop := Mat wr lo hi A n (mix k xss j) ∧ Out lo hi w wr

end Go.Proofs.Ytkkklpchkkdhfaa.mat
