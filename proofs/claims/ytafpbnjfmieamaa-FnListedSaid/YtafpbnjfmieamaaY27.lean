import Derived.Test.YtafpbnjfmieamaaY26
import Derived.Test.YtafpbnjfmieamaaY22
import Derived.Test.YtafpbnjfmieamaaY25
/-
  Contracts of the program's AnglesOf, StratumOf, GenusOf.
-/
namespace Go.Proofs.Ytafpbnjfmieamaa.gl
open Go.ChangeShapes Go.WideShapes Go.ChangeAt Go.RowKit
open Go.Proofs.Ytafpbnjfmieamaa.mem Go.Proofs.Ytafpbnjfmieamaa.ints Go.Proofs.Ytafpbnjfmieamaa.arr Go.Proofs.Ytafpbnjfmieamaa.pm Go.Proofs.Ytafpbnjfmieamaa.permOk Go.Proofs.Ytafpbnjfmieamaa.permOf Go.Proofs.Ytafpbnjfmieamaa.inv Go.Proofs.Ytafpbnjfmieamaa.fns Go.Proofs.Ytafpbnjfmieamaa.sf Go.Proofs.Ytafpbnjfmieamaa.mat Go.Proofs.Ytafpbnjfmieamaa.rf
set_option linter.unusedVariables false
set_option maxRecDepth 100000

theorem angF_yes {r u : List Int} (h : transB r u = true) {n : Nat} (hn : r.length = n) : angF r u = sortD (lensF (cso (comm r u) n n)) := by subst hn; unfold angF; rw [corF_yes h]; rfl
theorem angF_no {r u : List Int} (h : transB r u = false) : angF r u = [] := by unfold angF; rw [corF_no h]; rfl
set_option maxHeartbeats 2000000 in
theorem an_impl0 (v : Value) (r u : List Int) (hi : Nat) (w : World) (hx : Srd w hi v r u) (hn : r.length ≤ 1048576) (hm : u.length ≤ 1048576) :
    Calls Try.prog 57 #[v] w (Gives (angF r u) w) := by
  have HX := Lib.hid hx; clear hx
  obtain ⟨P, n, c, Q, m, d, rfl, q1, q2, e1, e2, ht, HR⟩ := HX.out.open
  have L1 := Lib.hid q1
  clear HR
  go_enter Try.func57, Try.ntmps57
  go_wp2_with fail
  refine (gluingOf_any _ r u hi _ (HX.out.keep ((Below.refl hi w).alloc ht _) (Nat.le_refl _)) hn hm).mono ?_
  rintro e w1 ⟨rfl, b1⟩
  have B1 := Lib.hid (below1 _ _ b1); clear b1

  cases hq : transB r u
  · have HF := Lib.hid (angF_no hq); clear hq
    go_wp2_with (refine wpList_store_row rfl 62 _ _ rfl w1.heap.size (V (glv r u)).toArray rfl rfl 62 (V zero49).toArray (Arr.new w1 (V zero49) _ rfl) (size49 (glv_len _ _)) (by simp [V_len, glv_len, zero49]) (one_V _) ?_; generalize hw_ : (w1.alloc (.cells #[.int .i64 0, .int .i64 0, .int .i64 0, .int .i64 0, .int .i64 0, .int .i64 0, .int .i64 0, .int .i64 0, .int .i64 0, .int .i64 0, .int .i64 0, .int .i64 0, .int .i64 0, .int .i64 0, .int .i64 0, .int .i64 0, .int .i64 0, .int .i64 0, .int .i64 0, .int .i64 0, .int .i64 0, .int .i64 0, .int .i64 0, .int .i64 0, .int .i64 0, .int .i64 0, .int .i64 0, .int .i64 0, .int .i64 0, .int .i64 0, .int .i64 0, .int .i64 0, .int .i64 0, .int .i64 0, .int .i64 0, .int .i64 0, .int .i64 0, .int .i64 0, .int .i64 0, .int .i64 0, .int .i64 0, .int .i64 0, .int .i64 0, .int .i64 0, .int .i64 0, .int .i64 0, .int .i64 0, .int .i64 0, .int .i64 0] 62)).setRow w1.heap.size (V (glv r u)).toArray = w2; have A2 : Hid (Arr w2 w1.heap.size (V (glv r u)) 62) := Lib.hid (by rw [← hw_]; exact (Arr.new w1 (V zero49) _ rfl).row); have b1 : Below w1.heap.size w1 w2 := (by rw [← hw_]; exact arr.below_setRow ((Below.refl _ _).alloc (Nat.le_refl _) _) (Nat.le_refl _) _); have t_ : w1.heap.size + 1 ≤ w2.heap.size := (by rw [← hw_]; simp); clear hw_; replace B1 := Lib.hid (B1.out.trans (b1.mono B1.out.size)); clear b1)
    go_ret
    exact gives_eq HF.out (gives_nil B1.out)
  · have HS : Hid (Sf n r u) := Lib.hid (by have := transB_iff.1 hq; rwa [L1.out] at this)
    have HF := Lib.hid (angF_yes hq L1.out)
    have HG : Hid (glv r u = gl (ext r) (ext u) n) := Lib.hid (by rw [glv_yes hq, L1.out])
    clear hq
    rw [HG.out]
    go_wp2_with (first | (refine wpList_store_row rfl 62 _ _ rfl w1.heap.size (V (gl (ext r) (ext u) n)).toArray rfl rfl 62 (V zero49).toArray (Arr.new w1 (V zero49) _ rfl) (size49 (gl_len (ext_len _) (ext_len _) n)) (by simp [V_len, gl_len, ext_len, zero49]) (one_V _) ?_; generalize hw_ : (w1.alloc (.cells #[.int .i64 0, .int .i64 0, .int .i64 0, .int .i64 0, .int .i64 0, .int .i64 0, .int .i64 0, .int .i64 0, .int .i64 0, .int .i64 0, .int .i64 0, .int .i64 0, .int .i64 0, .int .i64 0, .int .i64 0, .int .i64 0, .int .i64 0, .int .i64 0, .int .i64 0, .int .i64 0, .int .i64 0, .int .i64 0, .int .i64 0, .int .i64 0, .int .i64 0, .int .i64 0, .int .i64 0, .int .i64 0, .int .i64 0, .int .i64 0, .int .i64 0, .int .i64 0, .int .i64 0, .int .i64 0, .int .i64 0, .int .i64 0, .int .i64 0, .int .i64 0, .int .i64 0, .int .i64 0, .int .i64 0, .int .i64 0, .int .i64 0, .int .i64 0, .int .i64 0, .int .i64 0, .int .i64 0, .int .i64 0, .int .i64 0] 62)).setRow w1.heap.size (V (gl (ext r) (ext u) n)).toArray = w2; have A2 : Hid (Arr w2 w1.heap.size (V (gl (ext r) (ext u) n)) 62) := Lib.hid (by rw [← hw_]; exact (Arr.new w1 (V zero49) _ rfl).row); have b1 : Below w1.heap.size w1 w2 := (by rw [← hw_]; exact arr.below_setRow ((Below.refl _ _).alloc (Nat.le_refl _) _) (Nat.le_refl _) _); have t_ : w1.heap.size + 1 ≤ w2.heap.size := (by rw [← hw_]; simp); clear hw_; replace B1 := Lib.hid (B1.out.trans (b1.mono B1.out.size)); clear b1) | (refine wpList_load_row rfl 62 (.tmp 3) rfl w1.heap.size rfl 62 (V (gl (ext r) (ext u) n)).toArray (0, 0) _ A2.out Try.underlying62 rfl (size49 (gl_len (ext_len _) (ext_len _) n)) ?_))
    refine (angles_any r u n _ HS.out).mono ?_
    rintro e w3 hg
    obtain ⟨v3, rfl, o3, b3⟩ := gives_eq HF.out (gives_later B1.out hg)
    have O3 := Lib.hid o3; have BB := Lib.hid b3; clear o3 b3 hg A2
    go_wp2_with fail
    go_ret
    exact ⟨v3, rfl, O3.out, BB.out⟩

theorem an_impl (v : Value) (r u : List Int) (hi : Nat) (w : World) (hx : Srd w hi v r u) (hn : r.length ≤ 1048576) (hm : u.length ≤ 1048576) :
    Calls Try.prog 57 #[v] w fun e w' => ∃ v, e = .returned v ∧ w'.ownsRow w.heap.size 3 1 v (angF r u).length (V (angF r u)) ∧ Below w.heap.size w w' :=
  an_impl0 v r u hi w hx hn hm

set_option maxHeartbeats 2000000 in
theorem st_impl0 (v : Value) (r u : List Int) (hi : Nat) (w : World) (hx : Srd w hi v r u) (hn : r.length ≤ 1048576) (hm : u.length ≤ 1048576) :
    Calls Try.prog 27 #[v] w (Gives (strF r u) w) := by
  have HX := Lib.hid hx; clear hx
  obtain ⟨P, n, c, Q, m, d, rfl, q1, q2, e1, e2, ht, HR⟩ := HX.out.open
  obtain ⟨i0, hi0, hz0, hz1, hz2⟩ := info_parts infoI
  clear q1 q2 HR e1 e2
  go_enter Try.func27, Try.ntmps27
  go_wp2_with fail
  refine (an_impl _ r u hi _ (HX.out.keep ((Below.refl hi w).alloc ht _) (Nat.le_refl _)) hn hm).mono ?_
  rintro e w1 ⟨v1, rfl, o1, b1⟩
  obtain ⟨P1, c1, rfl⟩ := own_form o1
  have RA : Hid (Row w1 (w.heap.size + 1) w1.heap.size P1 (angF r u).length (V (angF r u))) := Lib.hid (by have := Row.of_own o1; simpa using this)
  have S0 : Hid (Grows w1 w1 (.slice none 0 0) []) := Lib.hid ⟨⟨rfl, .inl ⟨rfl, rfl⟩⟩, Below.refl _ _⟩
  have BW : Hid (Below w.heap.size w w1) := Lib.hid (((Below.refl _ _).alloc (Nat.le_refl _) _).trans (b1.mono (by simp)))
  clear o1 b1
  have HF : Hid (strF r u = strL (angF r u)) := Lib.hid rfl
  have HR := Lib.hid (angF_range r u)
  have hl := angF_len r u
  generalize angF r u = l at *
  go_wp2
  go_loopw [3, 9] (fun v i wr => ∃ k : Nat, k ≤ l.length ∧ i = .int .i64 k ∧ Grows w1 wr v (strL (l.take k))) (fun _ i _ => l.length - (intOf i).toNat)
  case atStart => exact ⟨0, Nat.zero_le _, rfl, by simpa [strL] using S0.out⟩
  case round =>
    obtain ⟨k, hk, rfl, hm⟩ := hrel
    obtain ⟨C, cc, rfl⟩ := own_form hm.own
    have HM := Lib.hid hm; clear hm
    have hsz : w1.heap.size ≤ wr.heap.size := HM.out.below.size
    by_cases hlt : k < l.length
    · obtain ⟨g, off, uu, rfl, hg1, hg2, hxu, hcx, hfx⟩ := (Row.keep RA.out HM.out.below (Nat.le_refl _)).at_ hlt
      obtain ⟨x, hxs, rfl⟩ := V_at hxu
      obtain ⟨hx0, hx24⟩ := HR.out x (List.mem_of_getElem? hxs)
      have NX : Hid (strL (l.take (k + 1)) = if 1 < x then strL (l.take k) ++ [x - 1] else strL (l.take k)) := Lib.hid (by rw [List.take_add_one, hxs]; exact strL_snoc _ _)
      have HLN : (strL (l.take k)).length ≤ l.length := by have := strL_len (l.take k); simp at this; omega
      clear hxu hxs hfx
      generalize strL (l.take k) = lk at *
      by_cases hx1 : 1 < x
      · rw [if_pos hx1] at NX
        go_wp2_with (at_builtin; refine wpList_append_one2 wr _ _ rfl _ _ 23 rfl w1.heap.size 3 i0 _ 8 1 Try.underlying23 hi0 hz0 hz1 rfl hz2 rfl _ _ _ rfl HM.out.own rfl rfl ?c4 (by decide) hsz ?_)
        case c4 => omega
        intro v' w' ho hg hb
        have HN : Hid (Grows w1 w' v' (strL (l.take (k + 1)))) := Lib.hid (by rw [NX.out]; exact HM.out.next ho rfl hg)
        clear ho hg hb HM hcx
        go_wp2
        go_roundw
        case rel => exact ⟨k + 1, by omega, by go_num, HN.out⟩
        case measure => simp [intOf]; omega
      · rw [if_neg hx1] at NX
        have hd : decide (1 < x) = false := by simp; omega
        clear hx1
        go_wp2
        go_roundw
        case rel => exact ⟨k + 1, by omega, by go_num, by rw [NX.out]; exact HM.out⟩
        case measure => simp [intOf]; omega
    · obtain rfl : k = l.length := by omega
      have e : l.take l.length = l := List.take_of_length_le (Nat.le_refl _)
      rw [e] at HM ⊢
      go_wp2
      go_ret
      exact gives_eq HF.out ⟨_, rfl, own_base HM.out.own BW.out.size, BW.out.trans (HM.out.below.mono BW.out.size)⟩

theorem st_impl (v : Value) (r u : List Int) (hi : Nat) (w : World) (hx : Srd w hi v r u) (hn : r.length ≤ 1048576) (hm : u.length ≤ 1048576) :
    Calls Try.prog 27 #[v] w fun e w' => ∃ v, e = .returned v ∧ w'.ownsRow w.heap.size 3 1 v (strF r u).length (V (strF r u)) ∧ Below w.heap.size w w' :=
  st_impl0 v r u hi w hx hn hm

set_option maxHeartbeats 4000000 in
theorem ge_impl (v : Value) (r u : List Int) (hi : Nat) (w : World) (hx : Srd w hi v r u) (hn : r.length ≤ 1048576) (hm : u.length ≤ 1048576) :
    Calls Try.prog 24 #[v] w fun e w' => e = .returned (.int .i64 (genF r u)) ∧ Below w.heap.size w w' := by
  have HX := Lib.hid hx; clear hx
  obtain ⟨P, n, c, Q, m, d, rfl, q1, q2, e1, e2, ht, HR⟩ := HX.out.open
  have L1 := Lib.hid q1
  clear HR
  go_enter Try.func24, Try.ntmps24
  go_wp2_with fail
  refine (gluingOf_any _ r u hi _ (HX.out.keep ((Below.refl hi w).alloc ht _) (Nat.le_refl _)) hn hm).mono ?_
  rintro e w1 ⟨rfl, b1⟩
  have B1 := Lib.hid (below1 _ _ b1); clear b1

  cases hq : transB r u
  · have HF := Lib.hid (genF_no hq); clear hq
    go_wp2_with (refine wpList_store_row rfl 62 _ _ rfl w1.heap.size (V (glv r u)).toArray rfl rfl 62 (V zero49).toArray (Arr.new w1 (V zero49) _ rfl) (size49 (glv_len _ _)) (by simp [V_len, glv_len, zero49]) (one_V _) ?_; generalize hw_ : (w1.alloc (.cells #[.int .i64 0, .int .i64 0, .int .i64 0, .int .i64 0, .int .i64 0, .int .i64 0, .int .i64 0, .int .i64 0, .int .i64 0, .int .i64 0, .int .i64 0, .int .i64 0, .int .i64 0, .int .i64 0, .int .i64 0, .int .i64 0, .int .i64 0, .int .i64 0, .int .i64 0, .int .i64 0, .int .i64 0, .int .i64 0, .int .i64 0, .int .i64 0, .int .i64 0, .int .i64 0, .int .i64 0, .int .i64 0, .int .i64 0, .int .i64 0, .int .i64 0, .int .i64 0, .int .i64 0, .int .i64 0, .int .i64 0, .int .i64 0, .int .i64 0, .int .i64 0, .int .i64 0, .int .i64 0, .int .i64 0, .int .i64 0, .int .i64 0, .int .i64 0, .int .i64 0, .int .i64 0, .int .i64 0, .int .i64 0, .int .i64 0] 62)).setRow w1.heap.size (V (glv r u)).toArray = w2; have A2 : Hid (Arr w2 w1.heap.size (V (glv r u)) 62) := Lib.hid (by rw [← hw_]; exact (Arr.new w1 (V zero49) _ rfl).row); have b1 : Below w1.heap.size w1 w2 := (by rw [← hw_]; exact arr.below_setRow ((Below.refl _ _).alloc (Nat.le_refl _) _) (Nat.le_refl _) _); have t_ : w1.heap.size + 1 ≤ w2.heap.size := (by rw [← hw_]; simp); clear hw_; replace B1 := Lib.hid (B1.out.trans (b1.mono B1.out.size)); clear b1)
    go_ret
    exact ⟨ret_int HF.out.symm, B1.out⟩
  · have HS : Hid (Sf n r u) := Lib.hid (by have := transB_iff.1 hq; rwa [L1.out] at this)
    have HF := Lib.hid (genF_yes hq L1.out)
    have HC : Hid ((sortD (lensF (cso (comm r u) n n))).length = (corF r u).length) := Lib.hid (by rw [sortD_len, corF_yes hq, L1.out]; simp [lensF])
    have hkn : (corF r u).length ≤ n := by rw [← L1.out]; exact corF_le r u
    have hk24 : n ≤ 24 := HS.out.small
    have HG : Hid (glv r u = gl (ext r) (ext u) n) := Lib.hid (by rw [glv_yes hq, L1.out])
    clear hq
    rw [HG.out]
    go_wp2_with (refine wpList_store_row rfl 62 _ _ rfl w1.heap.size (V (gl (ext r) (ext u) n)).toArray rfl rfl 62 (V zero49).toArray (Arr.new w1 (V zero49) _ rfl) (size49 (gl_len (ext_len _) (ext_len _) n)) (by simp [V_len, gl_len, ext_len, zero49]) (one_V _) ?_; generalize hw_ : (w1.alloc (.cells #[.int .i64 0, .int .i64 0, .int .i64 0, .int .i64 0, .int .i64 0, .int .i64 0, .int .i64 0, .int .i64 0, .int .i64 0, .int .i64 0, .int .i64 0, .int .i64 0, .int .i64 0, .int .i64 0, .int .i64 0, .int .i64 0, .int .i64 0, .int .i64 0, .int .i64 0, .int .i64 0, .int .i64 0, .int .i64 0, .int .i64 0, .int .i64 0, .int .i64 0, .int .i64 0, .int .i64 0, .int .i64 0, .int .i64 0, .int .i64 0, .int .i64 0, .int .i64 0, .int .i64 0, .int .i64 0, .int .i64 0, .int .i64 0, .int .i64 0, .int .i64 0, .int .i64 0, .int .i64 0, .int .i64 0, .int .i64 0, .int .i64 0, .int .i64 0, .int .i64 0, .int .i64 0, .int .i64 0, .int .i64 0, .int .i64 0] 62)).setRow w1.heap.size (V (gl (ext r) (ext u) n)).toArray = w2; have A2 : Hid (Arr w2 w1.heap.size (V (gl (ext r) (ext u) n)) 62) := Lib.hid (by rw [← hw_]; exact (Arr.new w1 (V zero49) _ rfl).row); have b1 : Below w1.heap.size w1 w2 := (by rw [← hw_]; exact arr.below_setRow ((Below.refl _ _).alloc (Nat.le_refl _) _) (Nat.le_refl _) _); have t_ : w1.heap.size + 1 ≤ w2.heap.size := (by rw [← hw_]; simp); clear hw_; replace B1 := Lib.hid (B1.out.trans (b1.mono B1.out.size)); clear b1)
    refine wp_region_held_drew (S := Hld w2.heap.size w2.heap.size w2 [(w1.heap.size, V (gl (ext r) (ext u) n))]) (by kernel_rfl) (Hld.start1 A2.out) (fun hHeld => ?_)
    have B2 := Lib.hid (B1.out.trans (hHeld.below.mono B1.out.size))
    generalize w2.drew = w3 at *
    clear A2 B1
    refine wpAnyH_take (i := 0) (v := .pointer (some ⟨w1.heap.size, 48, none⟩)) rfl (by kernel_rfl) (by kernel_rfl) (by kernel_rfl) (fun _ _ _ h => h) (Or.inl ⟨by rfl, fun w hSw => by go_simp⟩) hHeld ?_
    refine wpAnyH_take (i := 1) (v := .int .i64 n) rfl (by kernel_rfl) (by kernel_rfl) (by kernel_rfl) (fun _ _ _ h => h) (Or.inl ⟨by rfl, fun w hSw => by have := rg_count (ext_len r) (ext_len u) hSw.fst; go_simp⟩) hHeld ?_
    refine wpAnyH_take (i := 2) (v := .agg (V (gl (ext r) (ext u) n)).toArray) rfl (by kernel_rfl) (by kernel_rfl) (by kernel_rfl) (fun _ _ _ h => h) (yieldsIf_load_mid (by rfl) _ _ rfl w1.heap.size 0 rfl (V (gl (ext r) (ext u) n)) _ (fun w h => h.fst) Try.underlying62 rfl (hi49 (gl_len (ext_len _) (ext_len _) _))) hHeld ?_
    refine wpAnyH_ready (rs := [3]) (by kernel_rfl) (by simp) (AllReadyH.cons rfl (fun K hK => ?_) AllReadyH.nil)
    go_simp
    refine (angles_any r u n _ HS.out).mono ?_
    rintro e w4 ⟨v4, rfl, o4, b1⟩
    obtain ⟨P4, c4, rfl⟩ := own_form o4
    rw [HC.out]
    replace B2 := Lib.hid (B2.out.trans (b1.mono B2.out.size))
    clear o4
    go_wp2_with fail
    have hHeld2 := hHeld.later b1 (Nat.le_refl _); clear b1 hHeld
    refine hK.out _ _ hHeld2 (fun hHeld => ?_)
    clear hK K hHeld2
    generalize (corF r u).length = k at *
    have hw1 : IntKind.i64.wrap ((n : Int) - (k : Int)) = (n : Int) - (k : Int) := wrap_in (by omega) (by omega)
    have hw2 : IntKind.i64.wrap (((n : Int) - (k : Int)).tdiv 2) = ((n : Int) - (k : Int)) / 2 := by rw [Int.tdiv_eq_ediv_of_nonneg (by omega)]; exact wrap_in (by omega) (by omega)
    have hw3 : IntKind.i64.wrap (1 + ((n : Int) - (k : Int)) / 2) = 1 + ((n : Int) - (k : Int)) / 2 := wrap_in (by omega) (by omega)
    refine wpAnyH_take (i := 4) (v := .int .i64 k) rfl (by kernel_rfl) (by kernel_rfl) (by kernel_rfl) (fun _ _ _ h => h) (Or.inl ⟨by rfl, fun w hSw => by go_simp⟩) hHeld ?_
    refine wpAnyH_take (i := 5) (v := .int .i64 ((n : Int) - (k : Int))) rfl (by kernel_rfl) (by kernel_rfl) (by kernel_rfl) (fun _ _ _ h => h) (Or.inl ⟨by rfl, fun w hSw => by go_simp⟩) hHeld ?_
    refine wpAnyH_take (i := 6) (v := .int .i64 (((n : Int) - (k : Int)) / 2)) rfl (by kernel_rfl) (by kernel_rfl) (by kernel_rfl) (fun _ _ _ h => h) (Or.inl ⟨by rfl, fun w hSw => by go_simp⟩) hHeld ?_
    refine wpAnyH_take (i := 7) (v := .int .i64 (1 + ((n : Int) - (k : Int)) / 2)) rfl (by kernel_rfl) (by kernel_rfl) (by kernel_rfl) (fun _ _ _ h => h) (Or.inl ⟨by rfl, fun w hSw => by go_simp⟩) hHeld ?_
    refine wpAnyH_ready (rs := [8]) (by kernel_rfl) (by simp) (AllReadyH.cons rfl (fun K hK => ?_) AllReadyH.nil)
    go_simp
    refine hK.out _ _ hHeld (fun hHeld2 => ?_)
    clear hK K hHeld hHeld2
    refine wpAnyH_done (by kernel_rfl) ?_ _
    go_wp2_with fail
    go_ret
    exact ⟨ret_int HF.out.symm, B2.out⟩
end Go.Proofs.Ytafpbnjfmieamaa.gl

/-
  CountTori of both.
-/
namespace Go.Proofs.Ytafpbnjfmieamaa.lst
open Go.ChangeShapes Go.WideShapes Go.ChangeAt Go.RowKit
open Go.Proofs.Ytafpbnjfmieamaa.mem Go.Proofs.Ytafpbnjfmieamaa.ints Go.Proofs.Ytafpbnjfmieamaa.arr Go.Proofs.Ytafpbnjfmieamaa.pm Go.Proofs.Ytafpbnjfmieamaa.sf Go.Proofs.Ytafpbnjfmieamaa.gl Go.Proofs.Ytafpbnjfmieamaa.orb
set_option linter.unusedVariables false
set_option maxRecDepth 100000

theorem ctF_no {n : Int} (h : ¬ (1 ≤ n ∧ n ≤ 4)) : ctF n = -1 := if_neg h
theorem ctF_yes {n : Int} (h : 1 ≤ n ∧ n ≤ 4) : ctF n = ((siF n []).length : Nat) := by
  unfold ctF siF siL swF
  rw [if_pos h, if_pos h]
theorem ct_spec (a : Int) (w : World) (lo : -9223372036854775808 ≤ a) (hi : a ≤ 9223372036854775807) : Calls Try.prog 19 #[.int .i64 a] w fun e w' => e = .returned (.int .i64 (ctF a)) ∧ Below w.heap.size w w' := by
  by_cases hr : 1 ≤ a ∧ a ≤ 4
  · have HF := Lib.hid (ctF_yes hr)
    go_enter Try.func19, Try.ntmps19
    go_wp2_with (go_at_call 37; refine (permOk.in_yes _ _ _ _ (by omega) (by omega)).mono ?_; rintro e w' ⟨rfl, rfl⟩)
    refine (si_spec a none 0 0 [] w.heap.size w ⟨rfl, Nat.le_refl _, fun h => by omega⟩ (by omega)).mono ?_
    rintro e w1 ⟨v, rfl, sx⟩
    obtain ⟨A, c, rfl⟩ := sx.form
    have BB := Lib.hid sx.bel
    clear sx
    go_wp2_with fail
    go_ret
    exact ⟨ret_int HF.out.symm, BB.out⟩
  · have HF := Lib.hid (ctF_no hr)
    go_enter Try.func19, Try.ntmps19
    go_wp2_with (go_at_call 37; refine (permOk.in_no _ _ _ _ (by omega)).mono ?_; rintro e w' ⟨rfl, rfl⟩)
    go_ret
    exact ⟨ret_int HF.out.symm, Below.refl _ _⟩
def isT (x : Sur) : Bool := decide (genF x.1 x.2 = 1)
theorem ct_items {n : Int} (h : 1 ≤ n ∧ n ≤ 4) {Z : List Item} (e : Z.map sOf = swF n) : ((Z.filter (isT ∘ sOf)).length : Int) = ctF n := by
  have e1 : (Z.filter (isT ∘ sOf)).length = ((swF n).filter isT).length := by rw [← e, List.filter_map, List.length_map]
  rw [e1, ctF_yes h]
  congr 1
  unfold siF swF
  rw [if_pos h]
  have k := List.all_eq_true.1 (gen_kernel ⟨n.toNat, by omega⟩)
  congr 1
  refine List.filter_congr (fun x hx => ?_)
  have := k x hx
  simpa [isT] using this
theorem swF_pos {n : Int} (h : 1 ≤ n ∧ n ≤ 4) : 0 < (swF n).length := by
  unfold swF
  rw [if_pos h, (sw_ok (n := n.toNat) (by omega) (by omega)).len]
  obtain ⟨m, rfl⟩ : ∃ m : Nat, n = (m : Int) := ⟨n.toNat, by omega⟩
  have h1 : 1 ≤ m := by omega
  have h4 : m ≤ 4 := by omega
  have : m = 1 ∨ m = 2 ∨ m = 3 ∨ m = 4 := by omega
  rcases this with rfl | rfl | rfl | rfl <;> decide
set_option maxHeartbeats 2000000 in
theorem ct_impl (a : Int) (w : World) (lo : -9223372036854775808 ≤ a) (hi : a ≤ 9223372036854775807) : Calls Try.prog 8 #[.int .i64 a] w fun e w' => e = .returned (.int .i64 (ctF a)) ∧ Below w.heap.size w w' := by
  go_enter Try.func8, Try.ntmps8
  go_wp2_with fail
  refine (sw_impl a w).mono ?_
  rintro e w2 ⟨v2, rfl, sx⟩
  by_cases hr : 1 ≤ a ∧ a ≤ 4
  · obtain ⟨Z, ez, oz, pz⟩ := sx.ex
    obtain ⟨A2, c2, rfl⟩ := mem.own_form oz
    have hpos : 0 < Z.length := by
      have := swF_pos hr
      rwa [← ez, List.length_map] at this
    have SF : Hid (∀ z ∈ Z, Sf a.toNat (sOf z).1 (sOf z).2) := Lib.hid (fun z hz => sx.sf _ (by rw [← ez]; exact List.mem_map_of_mem hz))
    have CT := Lib.hid (ct_items hr ez)
    have NL : Z.length ≤ 1000 := by
      have e1 : Z.length = (swF a).length := by rw [← ez, List.length_map]
      have := swF_len a
      omega
    have PZ := Lib.hid pz; have OZ := Lib.hid oz; have B2 := Lib.hid sx.bel
    have hnz : ((Z.length : Int) == 0) = false := by rw [beq_eq_false_iff_ne]; omega
    clear ez oz pz sx
    go_wp2_with fail
    clear hnz
    go_loopw [4, 14] (fun t i wr => ∃ k : Nat, k ≤ Z.length ∧ i = .int .i64 k ∧ t = .int .i64 (((Z.take k).filter (isT ∘ sOf)).length : Nat) ∧ Below w2.heap.size w2 wr) (fun _ i _ => Z.length - (intOf i).toNat)
    case atStart => exact ⟨0, Nat.zero_le _, rfl, rfl, Below.refl _ _⟩
    case round =>
      obtain ⟨k, hk, rfl, rfl, bl⟩ := hrel
      have BL := Lib.hid bl; clear bl
      by_cases hlt : k < Z.length
      · obtain ⟨z, hz⟩ : ∃ z, Z[k]? = some z := ⟨_, List.getElem?_eq_getElem hlt⟩
        obtain ⟨g, off, rfl, hg, q0, q1⟩ := own_at OZ.out rfl hz
        have PR : Hid (Pk wr w.heap.size w2.heap.size (fun b => (Value.slice (some ⟨g, off, none⟩) Z.length c2).ownBlock = some b) Z) := Lib.hid (PZ.out.keep BL.out.size (fun b l h _ => BL.out.block b h))
        obtain ⟨P, c', Q, d', ep, srd⟩ := PR.out.srd (List.mem_of_getElem? hz)
        have SS := SF.out z (List.mem_of_getElem? hz)
        have ET : Hid (((Z.take (k + 1)).filter (isT ∘ sOf)).length = ((Z.take k).filter (isT ∘ sOf)).length + (if isT (sOf z) then 1 else 0)) := Lib.hid (by
          rw [List.take_add_one, hz, List.filter_append, List.length_append]
          congr 1
          simp [List.filter_cons]
          split <;> rfl)
        have hc0 : wr.cell? ⟨g, off + k * 2, none⟩ = some (.slice P (sOf z).1.length c') := by
          rw [World.cell?_of_block (w := w2) (a := ⟨g, off + k * 2, none⟩) (BL.out.block g hg), q0, ep]
        have hc1 : wr.cell? ⟨g, off + k * 2 + 1, none⟩ = some (.slice Q (sOf z).2.length d') := by
          rw [World.cell?_of_block (w := w2) (a := ⟨g, off + k * 2 + 1, none⟩) (BL.out.block g hg), q1, ep]
        have YL : ((Z.take k).filter (isT ∘ sOf)).length ≤ 1000 := by
          have := List.length_filter_le (isT ∘ sOf) (Z.take k)
          rw [List.length_take] at this
          omega
        have SRD := Lib.hid srd
        generalize ((Z.take k).filter (isT ∘ sOf)).length = Y at *
        have n24 := sf24 SS
        have r24 : (sOf z).1.length ≤ 24 := by rw [SS.lr]; exact n24
        have u24 : (sOf z).2.length ≤ 24 := by rw [SS.lu]; exact n24
        have IN : Hid (isT (sOf z) = decide (genF (sOf z).1 (sOf z).2 = 1)) := Lib.hid rfl
        generalize (sOf z).1 = r at *; generalize (sOf z).2 = u at *
        clear ep srd q0 q1 hz PR SS
        have ST1 : Hid (∃ W, W = wr.alloc (.cells #[.slice P r.length c', .slice Q u.length d'] 33) ∧ Below wr.heap.size wr W) := Lib.hid ⟨_, rfl, (Below.refl _ _).alloc (Nat.le_refl _) _⟩
        go_wp2_with fail
        obtain ⟨w3, eW, b3⟩ := ST1.out
        rw [← eW]
        have BL3 := Lib.hid (BL.out.trans (b3.mono BL.out.size)); have SR3 := Lib.hid (SRD.out.keep (b3.mono BL.out.size) (Nat.le_refl _))
        clear eW b3 ST1 SRD BL hc0 hc1
        refine (ge_impl _ r u _ _ SR3.out (by omega) (by omega)).mono ?_
        rintro e w4 ⟨rfl, b4⟩
        have BL4 := Lib.hid (BL3.out.trans (b4.mono BL3.out.size))
        clear b4 BL3
        cases hin : isT (sOf z)
        · have hz1 : (genF r u == 1) = false := by have := IN.out; rw [hin] at this; exact this.symm
          rw [hin] at ET
          clear IN
          go_wp2_with fail
          go_roundw
          case rel => exact ⟨k + 1, by omega, by go_num, by rw [ET.out]; rfl, BL4.out⟩
          case measure => simp [intOf]; omega
        · have hz1 : (genF r u == 1) = true := by have := IN.out; rw [hin] at this; exact this.symm
          rw [hin] at ET
          clear IN
          go_wp2_with fail
          go_roundw
          case rel => exact ⟨k + 1, by omega, by go_num, by rw [ET.out]; go_num, BL4.out⟩
          case measure => simp [intOf]; omega
      · obtain rfl : k = Z.length := by omega
        have CE := CT.out
        rw [List.take_of_length_le (Nat.le_refl _)]
        have HC := Lib.hid CE; clear CE CT
        generalize (Z.filter (isT ∘ sOf)).length = Y at *
        go_wp2_with fail
        go_ret
        exact ⟨ret_int HC.out, B2.out.trans (BL.out.mono B2.out.size)⟩
  · have e0 : swF a = [] := swF_no hr
    rw [e0] at sx
    obtain ⟨A2, c2, rfl⟩ := sx.form
    have BB := Lib.hid sx.bel
    have HF := Lib.hid (ctF_no hr)
    clear sx e0
    go_wp2_with fail
    go_ret
    exact ⟨ret_int HF.out.symm, BB.out⟩
end Go.Proofs.Ytafpbnjfmieamaa.lst
