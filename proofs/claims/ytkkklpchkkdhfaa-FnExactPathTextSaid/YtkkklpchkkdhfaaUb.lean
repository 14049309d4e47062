/-
  The specification's paths: whether one can begin, and its rounds.
-/
import Derived.Test.YtkkklpchkkdhfaaUa
import Derived.Test.YtkkklpchkkdhfaaRg
namespace Go.Proofs.Ytkkklpchkkdhfaa.pth
open Go.ChangeShapes Go.WideShapes Go.ChangeAt Go.RowKit
open Go.Proofs.Ytkkklpchkkdhfaa.mem Go.Proofs.Ytkkklpchkkdhfaa.ints Go.Proofs.Ytkkklpchkkdhfaa.arr Go.Proofs.Ytkkklpchkkdhfaa.pm Go.Proofs.Ytkkklpchkkdhfaa.permOk Go.Proofs.Ytkkklpchkkdhfaa.permOf Go.Proofs.Ytkkklpchkkdhfaa.inv Go.Proofs.Ytkkklpchkkdhfaa.fns Go.Proofs.Ytkkklpchkkdhfaa.sf Go.Proofs.Ytkkklpchkkdhfaa.gl Go.Proofs.Ytkkklpchkkdhfaa.dr
set_option linter.unusedVariables false
set_option maxRecDepth 100000
set_option linter.unusedSimpArgs false

theorem okQ_1 {r u : List Int} {i p q : Int} (h : transB r u = false) : okQ r u i p q = false := by simp [okQ, h]
theorem okQ_2 {r u : List Int} {i p q : Int} (h : ¬ 0 ≤ i) : okQ r u i p q = false := by simp [okQ, h]
theorem okQ_3 {r u : List Int} {i p q : Int} (h : ¬ i < r.length) : okQ r u i p q = false := by simp [okQ, h]
theorem okQ_4 {r u : List Int} {i p q : Int} (h1 : transB r u = true) (h2 : 0 ≤ i) (h3 : i < r.length) : okQ r u i p q = slB p q := by simp [okQ, h1, h2, h3]
set_option maxHeartbeats 1000000 in
theorem ok13 (v : Value) (r u : List Int) (i p q : Int) (hi : Nat) (w : World) (hx : Srd w hi v r u) (hn : r.length ≤ 1048576) (hm : u.length ≤ 1048576) (i0 : -9223372036854775808 ≤ i) (i1 : i ≤ 9223372036854775807) (p0 : -9223372036854775808 ≤ p) (p1 : p ≤ 9223372036854775807) (q0 : -9223372036854775808 ≤ q) (q1' : q ≤ 9223372036854775807) :
    Calls Try.prog 51 #[v, .int .i64 i, .int .i64 p, .int .i64 q] w fun e w' => e = .returned (.bool (okQ r u i p q)) ∧ Below w.heap.size w w' := by
  have HX := Lib.hid hx; clear hx
  obtain ⟨P, n, c, Q, m, d, rfl, q1, q2, e1, e2, ht, HR⟩ := HX.out.open
  have L1 := Lib.hid q1
  have hn' : n ≤ 1048576 := by omega
  clear HR q1 q2
  go_enter Try.func51, Try.ntmps51
  go_wp2_with fail
  refine (ok_spec _ r u hi _ (HX.out.keep ((Below.refl hi w).alloc ht _) (Nat.le_refl _)) hn hm).mono ?_
  rintro e w1 ⟨rfl, b1⟩
  have A0 := Lib.hid ((Arr.new w [.slice P n c, .slice Q m d] 32 rfl).keep b1 (by simp))
  have B1 := Lib.hid (below1 _ _ b1)
  clear b1
  have c0 := A0.out.cell (k := 0) rfl
  cases hq : transB r u
  · have HF := Lib.hid (okQ_1 (i := i) (p := p) (q := q) hq); clear hq
    go_wp2_with fail
    go_ret
    exact ⟨ret_bool HF.out.symm, B1.out⟩
  by_cases h0 : 0 ≤ i
  · have d0 : decide (0 ≤ i) = true := decide_eq_true h0
    by_cases h1 : i < (n : Int)
    · have d1 : decide (i < (n : Int)) = true := decide_eq_true h1
      have HF : Hid (okQ r u i p q = slB p q) := Lib.hid (okQ_4 hq h0 (by rw [L1.out]; exact h1))
      clear hq h0 h1
      go_wp2_with fail
      refine (so_spec p q _ p0 p1 q0 q1').mono ?_
      rintro e w2 ⟨rfl, b1⟩
      replace B1 := Lib.hid (B1.out.trans (b1.mono B1.out.size)); clear b1
      generalize slB p q = bb at *
      go_wp2_with fail
      go_ret
      exact ⟨ret_bool HF.out.symm, B1.out⟩
    · have d1 : decide (i < (n : Int)) = false := decide_eq_false h1
      have HF : Hid (okQ r u i p q = false) := Lib.hid (okQ_3 (by rw [L1.out]; exact h1))
      clear hq h0 h1
      go_wp2_with fail
      go_ret
      exact ⟨ret_bool HF.out.symm, B1.out⟩
  · have d0 : decide (0 ≤ i) = false := decide_eq_false h0
    have HF : Hid (okQ r u i p q = false) := Lib.hid (okQ_2 h0)
    clear hq h0
    go_wp2_with fail
    go_ret
    exact ⟨ret_bool HF.out.symm, B1.out⟩
theorem rd_no {r u : List Int} {i p q : Int} (h : okQ r u i p q = false) : rdF r u i p q = 0 := by simp [rdF, h]
theorem rd_yes {r u : List Int} {i p q : Int} (h : okQ r u i p q = true) : rdF r u i p q = (cyc (peF r u p q) r.length i).length := by simp [rdF, h]
set_option maxHeartbeats 2000000 in
theorem pr_spec (v : Value) (r u : List Int) (i p q : Int) (hi : Nat) (w : World) (hx : Srd w hi v r u) (hn : r.length ≤ 1048576) (hm : u.length ≤ 1048576) (i0 : -9223372036854775808 ≤ i) (i1 : i ≤ 9223372036854775807) (p0 : -9223372036854775808 ≤ p) (p1 : p ≤ 9223372036854775807) (q0 : -9223372036854775808 ≤ q) (q1' : q ≤ 9223372036854775807) :
    Calls Try.prog 30 #[v, .int .i64 i, .int .i64 p, .int .i64 q] w fun e w' => e = .returned (.int .i64 (rdF r u i p q)) ∧ Below w.heap.size w w' := by
  have HX := Lib.hid hx; clear hx
  obtain ⟨P, n, c, Q, m, d, rfl, q1, q2, e1, e2, ht, HR⟩ := HX.out.open
  have L1 := Lib.hid q1
  clear HR q1 q2
  go_enter Try.func30, Try.ntmps30
  go_wp2_with fail
  refine (ok13 _ r u i p q hi _ (HX.out.keep ((Below.refl hi w).alloc ht _) (Nat.le_refl _)) hn hm i0 i1 p0 p1 q0 q1').mono ?_
  rintro e w1 ⟨rfl, b1⟩
  have A0 := Lib.hid ((Arr.new w [.slice P n c, .slice Q m d] 32 rfl).keep b1 (by simp))
  have B1 := Lib.hid (below1 _ _ b1)
  have hs1 : w.heap.size + 1 ≤ w1.heap.size := by have := b1.size; simpa using this
  clear b1
  cases hq : okQ r u i p q
  · have HF := Lib.hid (rd_no hq); clear hq
    go_wp2_with fail
    go_ret
    exact ⟨ret_int (by rw [HF.out]; rfl), B1.out⟩
  obtain ⟨HS', ⟨i0', i1''⟩, hsl⟩ := okQ_facts hq
  have HS : Hid (Sf n r u) := Lib.hid (by rw [L1.out] at HS'; exact HS')
  have i1' : i < (n : Int) := by rw [L1.out] at i1''; exact i1''
  have HB : Hid (Bij n (peF r u p q)) := Lib.hid (by have := pe_bij hq; rwa [L1.out] at this)
  have LE : Hid ((peF r u p q).length = n) := Lib.hid (by rw [(pe_ok hq).2, L1.out])
  have HF : Hid (rdF r u i p q = (cyc (peF r u p q) n i).length) := Lib.hid (by rw [rd_yes hq, L1.out])
  have n24 : n ≤ 24 := HS.out.small
  obtain ⟨a, b, rfl, rfl, hab, h1, hg⟩ := sl_nat hsl
  have HW := Lib.hid (swF_yes hsl)
  have PE : Hid (peF r u (a : Int) (b : Int) = ev n r u (swL a b)) := Lib.hid (by unfold peF; rw [L1.out, Int.toNat_natCast, Int.toNat_natCast])
  clear hq HS' i1'' hsl hg
  have X1 : Hid (Srd w1 hi (.agg #[.slice P n c, .slice Q m d]) r u) := Lib.hid (HX.out.keep (B1.out.mono ht) (Nat.le_refl _))
  have ht2 := Nat.le_trans ht B1.out.size
  go_wp2_with fail
  refine wp_region_held_drew (S := Hld w1.heap.size w1.heap.size w1 [(w.heap.size, [.slice P n c, .slice Q m d])]) (by kernel_rfl) (Hld.start1 A0.out) (fun hHeld => ?_)
  have b1 : Below w1.heap.size w1 w1.drew := ⟨rfl, rfl, rfl, Nat.le_refl _, fun _ _ => rfl⟩
  generalize w1.drew = w3 at *
  replace B1 := Lib.hid (B1.out.trans (b1.mono B1.out.size)); replace X1 := Lib.hid (X1.out.keep b1 ht2)
  have hs3 := b1.size
  clear b1
  refine wpAnyH_take (i := 0) (v := .agg #[.slice P n c, .slice Q m d]) rfl (by kernel_rfl) (by kernel_rfl) (by kernel_rfl) (fun _ _ _ h => h) (yieldsIf_load_mid (by kernel_rfl) _ _ rfl (w.heap.size) 0 rfl [.slice P n c, .slice Q m d] _ (fun w h => h.fst) Try.underlying32 rfl (sizeS _ _)) hHeld ?_
  refine wpAnyH_take (i := 1) (v := .int .i64 (a : Int)) rfl (by kernel_rfl) (by kernel_rfl) (by kernel_rfl) (fun _ _ _ h => h) (Or.inl ⟨by first | kernel_rfl | rfl, fun w hSw => by go_simp⟩) hHeld ?_
  refine wpAnyH_take (i := 2) (v := .int .i64 (b : Int)) rfl (by kernel_rfl) (by kernel_rfl) (by kernel_rfl) (fun _ _ _ h => h) (Or.inl ⟨by first | kernel_rfl | rfl, fun w hSw => by go_simp⟩) hHeld ?_
  refine wpAnyH_ready (rs := [3]) (by kernel_rfl) (by simp) (AllReadyH.cons rfl (fun K hK => ?_) AllReadyH.nil)
  go_simp
  refine (sw_spec a b _ (by omega) (by omega) (by omega) (by omega)).mono ?_
  rintro e w4 ⟨rfl, b1⟩
  rw [HW.out]
  replace B1 := Lib.hid (B1.out.trans (b1.mono B1.out.size)); replace X1 := Lib.hid (X1.out.keep b1 (by omega))
  have hs4 := b1.size
  go_wp2_with fail
  have hHeld2 := hHeld.later b1 (by omega); clear b1 hHeld
  refine hK.out _ _ hHeld2 (fun hHeld => ?_)
  clear hK K hHeld2
  refine wpAnyH_ready (rs := [4]) (by kernel_rfl) (by simp) (AllReadyH.cons rfl (fun K hK => ?_) AllReadyH.nil)
  go_simp
  refine (path_spec _ r u n hi (swL a b) _ X1.out HS.out (by rw [swL_len]; exact hab) (fun _ h => swL_or h)).mono ?_
  rintro e w5 ⟨v5, rfl, o5, b1⟩
  rw [← PE.out] at o5
  obtain ⟨P5, c5, rfl, R5, hc5⟩ := gl.gives_rows o5
  have ge := w4.heap.size
  replace B1 := Lib.hid (B1.out.trans (b1.mono B1.out.size))
  have hs5 := b1.size
  rw [LE.out] at R5 hc5 ⊢
  have O5 := Lib.hid R5.rd
  generalize peF r u (a : Int) (b : Int) = E at *
  go_wp2_with fail
  have hHeld2 := hHeld.later b1 (by omega); clear b1 hHeld R5
  refine hK.out _ _ hHeld2 (fun hHeld => ?_)
  clear hK K hHeld2
  refine wpAnyH_take (i := 5) (v := .slice P5 n c5) rfl (by kernel_rfl) (by kernel_rfl) (by kernel_rfl) (fun _ _ _ h => h) (Or.inl ⟨by first | kernel_rfl | rfl, fun w hSw => by go_simp⟩) hHeld ?_
  refine wpAnyH_done (by kernel_rfl) ?_ _
  try dsimp only [List.getElem_toArray, List.getElem_cons_zero, List.getElem_cons_succ]
  try simp only [Act.put, List.setIfInBounds_toArray, List.set_cons_zero, List.set_cons_succ]
  clear hHeld
  have IX : Hid (∀ x : Int, 0 ≤ x → x < n → ∃ g off, P5 = some ⟨g, off, none⟩ ∧ w5.cell? ⟨g, off + x.toNat, none⟩ = some (.int .i64 (E.getD x.toNat 0))) := Lib.hid (fun x h0 h1 => by
    obtain ⟨g, off, uu, e, _, hxu, hcx⟩ := O5.out.at_ (k := x.toNat) (by omega)
    rw [V_getD (by rw [LE.out]; omega)] at hxu
    cases hxu
    exact ⟨g, off, e, hcx⟩)
  obtain ⟨gb, off, rfl, c0⟩ := IX.out i i0' i1'
  obtain ⟨j, rfl⟩ : ∃ j : Nat, i = (j : Int) := ⟨i.toNat, by omega⟩
  rw [Int.toNat_natCast] at c0
  have CS := Lib.hid (Cw.start (ps := E) i0' i1')
  rw [Int.toNat_natCast] at CS
  generalize hy : E.getD j 0 = y at *
  go_wp2_with fail
  go_loopw [10, 11] (fun nv xv wr => ∃ (x : Int) (acc : List Int) (m : Nat), nv = .int .i64 acc.length ∧ xv = .int .i64 x ∧ Hid (Cw n E (j : Int) x acc m) ∧ wr = w5) (fun nv _ _ => n + 1 - (intOf nv).toNat)
  case atStart => exact ⟨y, [(j : Int)], n, rfl, rfl, CS, rfl⟩
  case round =>
    obtain ⟨x, acc, m, rfl, rfl, CW, rfl⟩ := hrel
    have hxin := CW.out.way.x_in HB.out
    have hlen := CW.out.len
    have hmp := CW.out.pos
    obtain ⟨z, rfl⟩ : ∃ z : Nat, x = (z : Int) := ⟨x.toNat, by omega⟩
    by_cases hx : z = j
    · subst hx
      have FIN : Hid (acc = cyc E n (z : Int)) := Lib.hid CW.out.done
      have hne : (((z : Int)) != (z : Int)) = false := by simp
      go_wp2_with fail
      go_ret
      exact ⟨ret_int (by rw [HF.out, ← FIN.out]), B1.out⟩
    · have hne : (((z : Int)) != (j : Int)) = true := by simp; omega
      have NXT := Lib.hid (CW.out.next HB.out (by omega))
      rw [Int.toNat_natCast] at NXT
      obtain ⟨gb2, off2, e2, c1⟩ := IX.out (z : Int) hxin.1 hxin.2
      cases e2
      rw [Int.toNat_natCast] at c1
      generalize hlx : acc.length = ll at *
      have hw : IntKind.i64.wrap ((ll : Int) + 1) = (ll : Int) + 1 := IntWalk.i64_in _ (by omega)
      go_wp2_with fail
      go_roundw
      case rel => exact ⟨_, acc ++ [(z : Int)], m - 1, by simp [hlx], rfl, NXT, by first | rfl | trivial⟩
      case measure => simp [intOf]; omega
end Go.Proofs.Ytkkklpchkkdhfaa.pth
