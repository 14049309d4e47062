/-
  Contracts of the model's AroundOf, CornersOf, AnglesOf, StratumOf, GenusOf, IsRegularCorner.
-/
import Derived.Test.YtpafloeghbfdgaaAr
import Derived.Test.YtpafloeghbfdgaaDn
import Derived.Test.YtpafloeghbfdgaaCycSpec
namespace Go.Proofs.Ytpafloeghbfdgaa.gl
open Go.ChangeShapes Go.WideShapes Go.ChangeAt Go.RowKit
open Go.Proofs.Ytpafloeghbfdgaa.mem Go.Proofs.Ytpafloeghbfdgaa.ints Go.Proofs.Ytpafloeghbfdgaa.arr Go.Proofs.Ytpafloeghbfdgaa.pm Go.Proofs.Ytpafloeghbfdgaa.permOk Go.Proofs.Ytpafloeghbfdgaa.permOf Go.Proofs.Ytpafloeghbfdgaa.inv Go.Proofs.Ytpafloeghbfdgaa.fns Go.Proofs.Ytpafloeghbfdgaa.sf Go.Proofs.Ytpafloeghbfdgaa.mat
set_option linter.unusedVariables false
set_option maxRecDepth 100000

theorem gives_eq {r r' : List Int} {w w' : World} {e : Ending} (h : r' = r) (g : Gives r w e w') : Gives r' w e w' := h ▸ g
theorem mgives_eq {r r' : List (List Int)} {w w' : World} {e : Ending} (h : r' = r) (g : MGives r w e w') : MGives r' w e w' := h ▸ g

set_option maxHeartbeats 1000000 in
theorem ar_spec0 (v : Value) (r u : List Int) (hi : Nat) (w : World) (hx : Srd w hi v r u) (hn : r.length ≤ 1048576) (hm : u.length ≤ 1048576) :
    Calls Try.prog 23 #[v] w (Gives (arF r u) w) := by
  have HX := Lib.hid hx; clear hx
  obtain ⟨P, n, c, Q, m, d, rfl, q1, q2, e1, e2, ht, HR⟩ := HX.out.open
  go_enter Try.func23, Try.ntmps23
  go_wp2_with fail
  refine (ok_spec _ r u hi _ (HX.out.keep ((Below.refl hi w).alloc ht _) (Nat.le_refl _)) hn hm).mono ?_
  rintro e w1 ⟨rfl, b1⟩
  have A0 := Lib.hid ((Arr.new w [.slice P n c, .slice Q m d] 25 rfl).keep b1 (by simp))
  have c0 := A0.out.cell (k := 0) rfl
  have c1 := A0.out.cell (k := 1) rfl
  have B1 := Lib.hid (below1 _ _ b1); clear b1
  have X1 : Hid (Srd w1 hi (.agg #[.slice P n c, .slice Q m d]) r u) := Lib.hid (HX.out.keep (B1.out.mono ht) (Nat.le_refl _))
  cases hq : transB r u
  · have HF := Lib.hid (arF_no hq); clear hq
    go_wp2_with fail
    go_ret
    exact gives_eq HF.out (gives_nil B1.out)
  · have HF := Lib.hid (arF_yes hq)
    have HS := Lib.hid (transB_iff.1 hq); clear hq
    go_wp2_with fail
    refine (around_spec _ r u hi _ X1.out HS.out).mono ?_
    rintro e w2 hg
    obtain ⟨v2, rfl, o2, b2⟩ := gives_eq HF.out (gives_later B1.out hg)
    have O2 := Lib.hid o2; have B2 := Lib.hid b2; clear o2 b2 hg
    go_wp2_with fail
    go_ret
    exact ⟨v2, rfl, O2.out, B2.out⟩
theorem ar_spec (v : Value) (r u : List Int) (hi : Nat) (w : World) (hx : Srd w hi v r u) (hn : r.length ≤ 1048576) (hm : u.length ≤ 1048576) :
    Calls Try.prog 23 #[v] w fun e w' => ∃ v, e = .returned v ∧ w'.ownsRow w.heap.size 3 1 v (arF r u).length (V (arF r u)) ∧ Below w.heap.size w w' :=
  ar_spec0 v r u hi w hx hn hm

set_option maxHeartbeats 1000000 in
theorem co_spec0 (v : Value) (r u : List Int) (hi : Nat) (w : World) (hx : Srd w hi v r u) (hn : r.length ≤ 1048576) (hm : u.length ≤ 1048576) :
    Calls Try.prog 30 #[v] w (MGives (corF r u) w) := by
  have HX := Lib.hid hx; clear hx
  obtain ⟨P, n, c, Q, m, d, rfl, q1, q2, e1, e2, ht, HR⟩ := HX.out.open
  go_enter Try.func30, Try.ntmps30
  go_wp2_with fail
  refine (ok_spec _ r u hi _ (HX.out.keep ((Below.refl hi w).alloc ht _) (Nat.le_refl _)) hn hm).mono ?_
  rintro e w1 ⟨rfl, b1⟩
  have A0 := Lib.hid ((Arr.new w [.slice P n c, .slice Q m d] 25 rfl).keep b1 (by simp))
  have c0 := A0.out.cell (k := 0) rfl
  have c1 := A0.out.cell (k := 1) rfl
  have B1 := Lib.hid (below1 _ _ b1); clear b1
  have X1 : Hid (Srd w1 hi (.agg #[.slice P n c, .slice Q m d]) r u) := Lib.hid (HX.out.keep (B1.out.mono ht) (Nat.le_refl _))
  cases hq : transB r u
  · have HF := Lib.hid (corF_no hq); clear hq
    go_wp2_with fail
    go_ret
    exact mgives_eq HF.out (mgives_nil B1.out)
  · have HF := Lib.hid (corF_cyc hq)
    have HS := Lib.hid (transB_iff.1 hq); clear hq
    go_wp2_with fail
    refine (around_spec _ r u hi _ X1.out HS.out).mono ?_
    rintro e w2 hg
    obtain ⟨v2, rfl, o2, b2⟩ := gives_later B1.out hg
    obtain ⟨P2, c2, rfl⟩ := own_form o2
    have R2 := Lib.hid (Row.of_own o2); have B2 := Lib.hid b2
    have hcap := (own_cap o2).2
    have hl : (comm r u).length ≤ 1048576 := by have := HS.out.comm.2; omega
    clear o2 b2 hg
    go_wp2_with fail
    refine (cyc_spec P2 _ c2 (comm r u) _ _ R2.out.rd hl hcap).mono ?_
    rintro e w3 hg
    obtain ⟨P3, c3, rfl, o3, b3⟩ := mgives_eq HF.out (mgives_later B2.out hg)
    have O3 := Lib.hid o3; have B3 := Lib.hid b3; clear o3 b3 hg
    go_wp2_with fail
    go_ret
    exact ⟨P3, c3, rfl, O3.out, B3.out⟩
theorem co_spec (v : Value) (r u : List Int) (hi : Nat) (w : World) (hx : Srd w hi v r u) (hn : r.length ≤ 1048576) (hm : u.length ≤ 1048576) :
    Calls Try.prog 30 #[v] w fun e w' => ∃ A c, e = .returned (.slice A (corF r u).length c) ∧ Mat w' w.heap.size w'.heap.size A (corF r u).length (corF r u) ∧ Below w.heap.size w w' :=
  co_spec0 v r u hi w hx hn hm

set_option maxHeartbeats 1000000 in
theorem an_spec0 (v : Value) (r u : List Int) (hi : Nat) (w : World) (hx : Srd w hi v r u) (hn : r.length ≤ 1048576) (hm : u.length ≤ 1048576) :
    Calls Try.prog 34 #[v] w (Gives (angF r u) w) := by
  have HX := Lib.hid hx; clear hx
  obtain ⟨P, n, c, Q, m, d, rfl, q1, q2, e1, e2, ht, HR⟩ := HX.out.open
  go_enter Try.func34, Try.ntmps34
  go_wp2_with fail
  refine (co_spec _ r u hi _ (HX.out.keep ((Below.refl hi w).alloc ht _) (Nat.le_refl _)) hn hm).mono ?_
  rintro e w1 ⟨P1, c1, rfl, o1, b1⟩
  have B1 := Lib.hid (below1 _ _ b1); have O1 := Lib.hid o1; clear b1 o1
  have hs := corF_small r u
  have HF : Hid (angF r u = sortD (lensF (corF r u))) := Lib.hid rfl
  go_wp2_with fail
  refine (lens_spec P1 _ c1 (corF r u) _ _ _ O1.out (by omega) (by have := hs.2; unfold tot; omega)).mono ?_
  rintro e w2 hg
  obtain ⟨v2, rfl, o2, b2⟩ := gives_eq HF.out (gives_later B1.out hg)
  have O2 := Lib.hid o2; have B2 := Lib.hid b2; clear o2 b2 hg
  go_wp2_with fail
  go_ret
  exact ⟨v2, rfl, O2.out, B2.out⟩
theorem an_spec (v : Value) (r u : List Int) (hi : Nat) (w : World) (hx : Srd w hi v r u) (hn : r.length ≤ 1048576) (hm : u.length ≤ 1048576) :
    Calls Try.prog 34 #[v] w fun e w' => ∃ v, e = .returned v ∧ w'.ownsRow w.heap.size 3 1 v (angF r u).length (V (angF r u)) ∧ Below w.heap.size w w' :=
  an_spec0 v r u hi w hx hn hm

theorem angF_range (r u : List Int) : ∀ x ∈ angF r u, 0 ≤ x ∧ x ≤ 24 := by
  intro x hx
  have h := (sortD_perm _).mem_iff.1 hx
  obtain ⟨c, hc, rfl⟩ := List.mem_map.1 h
  have h2 := (corF_small r u).2
  have h3 : c.length ≤ ((corF r u).map List.length).sum := by
    obtain ⟨k, hk⟩ := List.getElem?_of_mem hc
    exact tot_row hk
  omega
/-- The stratum that grows: from the block behind the box on. -/
structure Sg (w w1 wr : World) (v : Value) (l : List Int) : Prop where
  own : wr.ownsRow (w.heap.size + 1) 3 1 v l.length (V l)
  out : Out (w.heap.size + 1) (w.heap.size + 2) w1 wr
  at_ : ∀ b, v.ownBlock = some b → b = w.heap.size + 1 ∨ w1.heap.size ≤ b
theorem Sg.next {w w1 wr w' : World} {v v' : Value} {l : List Int} {z : Int} {n : Nat} (h : Sg w w1 wr v l) (ho : w'.ownsRow (w.heap.size + 1) 3 1 v' (n + 1) (V l ++ [.int .i64 z])) (hn : n = l.length)
    (hg : wr.grownBy w' v.ownBlock) (hb : v'.ownBlock = v.ownBlock ∨ ∃ k, v'.ownBlock = some k ∧ wr.heap.size + 1 ≤ k) : Sg w w1 w' v' (l ++ [z]) := by
  subst hn
  have e : V (l ++ [z]) = V l ++ [.int .i64 z] := by simp [V]
  have hs := h.out.size
  refine ⟨by rw [e]; simpa using ho, ⟨hg.os.trans h.out.os, hg.tape.trans h.out.tape, hg.output.trans h.out.output, Nat.le_trans hs hg.size, fun k hk hne => ?_⟩, fun b hq => ?_⟩
  · refine (hg.block k (by omega) (fun e => ?_)).trans (h.out.block k hk hne)
    have := h.at_ k e.symm
    omega
  · rcases hb with q | ⟨k, q, hk⟩
    · exact h.at_ b (by rw [← q]; exact hq)
    · rw [q] at hq; injection hq with hq; omega

set_option maxHeartbeats 2000000 in
theorem st_spec0 (v : Value) (r u : List Int) (hi : Nat) (w : World) (hx : Srd w hi v r u) (hn : r.length ≤ 1048576) (hm : u.length ≤ 1048576) :
    Calls Try.prog 35 #[v] w (Gives (strF r u) w) := by
  have HX := Lib.hid hx; clear hx
  obtain ⟨P, n, c, Q, m, d, rfl, q1, q2, e1, e2, ht, HR⟩ := HX.out.open
  obtain ⟨i0, hi0, hz0, hz1, hz2⟩ := info_parts infoI
  clear q1 q2 HR e1 e2
  go_enter Try.func35, Try.ntmps35
  go_wp2_with fail
  refine (an_spec _ r u hi _ (HX.out.keep (((Below.refl hi w).alloc ht _).alloc (by simp; omega) _) (Nat.le_refl _)) hn hm).mono ?_
  rintro e w1 ⟨v1, rfl, o1, b1⟩
  obtain ⟨P1, c1, rfl⟩ := own_form o1
  have RA : Hid (Row w1 (w.heap.size + 2) w1.heap.size P1 (angF r u).length (V (angF r u))) := Lib.hid (by have := Row.of_own o1; simpa using this)
  have hs1 : w.heap.size + 2 ≤ w1.heap.size := by have := b1.size; simpa using this
  have hblk : w1.heap[w.heap.size + 1]? = some (.cells #[] 3 (0, 0)) := by
    rw [b1.block _ (by simp)]
    have := heap_alloc_last (w.alloc (.cells #[.slice P n c, .slice Q m d] 25)) (.cells #[] 3)
    simpa using this
  have S0 : Hid (Sg w w1 w1 (.slice (some ⟨w.heap.size + 1, 0, none⟩) 0 0) []) := Lib.hid ⟨⟨rfl, .inr ⟨w.heap.size + 1, 0, #[], rfl, Nat.le_refl _, hblk, Nat.le_refl _, by simp, rfl, rfl⟩⟩, Out.refl _ _ _, fun b e => by simp [Value.ownBlock] at e; omega⟩
  have BW : Hid (Below w.heap.size w w1) := Lib.hid ((((Below.refl _ _).alloc (Nat.le_refl _) _).alloc (by simp) _).trans (b1.mono (by simp <;> omega)))
  clear o1 b1 hblk
  have HF : Hid (strF r u = strL (angF r u)) := Lib.hid rfl
  have HR := Lib.hid (angF_range r u)
  have hl := angF_len r u
  generalize angF r u = l at *
  go_wp2
  go_loopw [3, 10] (fun v i wr => ∃ k : Nat, k ≤ l.length ∧ i = .int .i64 k ∧ Sg w w1 wr v (strL (l.take k))) (fun _ i _ => l.length - (intOf i).toNat)
  case atStart => exact ⟨0, Nat.zero_le _, rfl, by simpa [strL] using S0.out⟩
  case round =>
    obtain ⟨k, hk, rfl, hm⟩ := hrel
    obtain ⟨C, cc, rfl⟩ := own_form hm.own
    have HM := Lib.hid hm; clear hm
    have hsz : w1.heap.size ≤ wr.heap.size := HM.out.out.size
    by_cases hlt : k < l.length
    · obtain ⟨g, off, uu, rfl, hg1, hg2, hxu, hcx, hfx⟩ := (Row.out RA.out HM.out.out (.inr (Nat.le_refl _))).at_ hlt
      obtain ⟨x, hxs, rfl⟩ := V_at hxu
      obtain ⟨hx0, hx24⟩ := HR.out x (List.mem_of_getElem? hxs)
      have NX : Hid (strL (l.take (k + 1)) = if 1 < x then strL (l.take k) ++ [x - 1] else strL (l.take k)) := Lib.hid (by rw [List.take_add_one, hxs]; exact strL_snoc _ _)
      have HLN : (strL (l.take k)).length ≤ l.length := by have := strL_len (l.take k); simp at this; omega
      clear hxu hxs hfx
      generalize strL (l.take k) = lk at *
      by_cases hx1 : 1 < x
      · rw [if_pos hx1] at NX
        go_wp2_with (at_builtin; refine wpList_append_one2 wr _ _ rfl _ _ 23 rfl (w.heap.size + 1) 3 i0 _ 8 1 Try.underlying23 hi0 hz0 hz1 rfl hz2 rfl _ _ _ rfl HM.out.own rfl rfl ?c4 (by decide) (by omega) ?_)
        case c4 => omega
        intro v' w' ho hg hb
        have HN : Hid (Sg w w1 w' v' (strL (l.take (k + 1)))) := Lib.hid (by rw [NX.out]; exact HM.out.next ho rfl hg hb)
        clear ho hg hb HM hcx
        go_wp2
        go_roundw
        case rel => exact ⟨k + 1, by omega, by go_num, HN.out⟩
        case measure => simp [intOf]; omega
      · rw [if_neg hx1] at NX
        have hd : decide (1 < x) = false := by simp; omega
        clear hx1
        go_wp2
        go_roundw
        case rel => exact ⟨k + 1, by omega, by go_num, by rw [NX.out]; exact HM.out⟩
        case measure => simp [intOf]; omega
    · obtain rfl : k = l.length := by omega
      have e : l.take l.length = l := List.take_of_length_le (Nat.le_refl _)
      rw [e] at HM ⊢
      go_wp2
      go_ret
      exact gives_eq HF.out ⟨_, rfl, own_base HM.out.own (by omega), BW.out.trans (HM.out.out.below (by omega) (by have := BW.out.size; omega))⟩

theorem st_spec (v : Value) (r u : List Int) (hi : Nat) (w : World) (hx : Srd w hi v r u) (hn : r.length ≤ 1048576) (hm : u.length ≤ 1048576) :
    Calls Try.prog 35 #[v] w fun e w' => ∃ v, e = .returned v ∧ w'.ownsRow w.heap.size 3 1 v (strF r u).length (V (strF r u)) ∧ Below w.heap.size w w' :=
  st_spec0 v r u hi w hx hn hm

end Go.Proofs.Ytpafloeghbfdgaa.gl
