/-
  Contracts of the program's AnglesOf, StratumOf, GenusOf.
-/
import Derived.Test.YtpmojmhamgcfmaaWAn
import Derived.Test.YtpmojmhamgcfmaaWAg
namespace Go.Proofs.Ytpmojmhamgcfmaa.gl
open Go.ChangeShapes Go.WideShapes Go.ChangeAt Go.RowKit
open Go.Proofs.Ytpmojmhamgcfmaa.mem Go.Proofs.Ytpmojmhamgcfmaa.ints Go.Proofs.Ytpmojmhamgcfmaa.arr Go.Proofs.Ytpmojmhamgcfmaa.pm Go.Proofs.Ytpmojmhamgcfmaa.permOk Go.Proofs.Ytpmojmhamgcfmaa.permOf Go.Proofs.Ytpmojmhamgcfmaa.inv Go.Proofs.Ytpmojmhamgcfmaa.fns Go.Proofs.Ytpmojmhamgcfmaa.sf Go.Proofs.Ytpmojmhamgcfmaa.mat Go.Proofs.Ytpmojmhamgcfmaa.rf
set_option linter.unusedVariables false
set_option maxRecDepth 100000

theorem angF_yes {r u : List Int} (h : transB r u = true) {n : Nat} (hn : r.length = n) : angF r u = sortD (lensF (cso (comm r u) n n)) := by subst hn; unfold angF; rw [corF_yes h]; rfl
theorem angF_no {r u : List Int} (h : transB r u = false) : angF r u = [] := by unfold angF; rw [corF_no h]; rfl
set_option maxHeartbeats 2000000 in
theorem an_impl0 (v : Value) (r u : List Int) (hi : Nat) (w : World) (hx : Srd w hi v r u) (hn : r.length ≤ 1048576) (hm : u.length ≤ 1048576) :
    Calls Try.prog 12 #[v] w (Gives (angF r u) w) := by
  have HX := Lib.hid hx; clear hx
  obtain ⟨P, n, c, Q, m, d, rfl, q1, q2, e1, e2, ht, HR⟩ := HX.out.open
  have L1 := Lib.hid q1
  clear HR
  go_enter Try.func12, Try.ntmps12
  go_wp2_with fail
  refine (gluingOf_any _ r u hi _ (HX.out.keep ((Below.refl hi w).alloc ht _) (Nat.le_refl _)) hn hm).mono ?_
  rintro e w1 ⟨rfl, b1⟩
  have B1 := Lib.hid (below1 _ _ b1); clear b1

  cases hq : transB r u
  · have HF := Lib.hid (angF_no hq); clear hq
    go_wp2_with (refine wpList_store_row rfl 63 _ _ rfl w1.heap.size (V (glv r u)).toArray rfl rfl 63 (V zero49).toArray (Arr.new w1 (V zero49) _ rfl) (size49 (glv_len _ _)) (by simp [V_len, glv_len, zero49]) (one_V _) ?_; generalize hw_ : (w1.alloc (.cells #[.int .i64 0, .int .i64 0, .int .i64 0, .int .i64 0, .int .i64 0, .int .i64 0, .int .i64 0, .int .i64 0, .int .i64 0, .int .i64 0, .int .i64 0, .int .i64 0, .int .i64 0, .int .i64 0, .int .i64 0, .int .i64 0, .int .i64 0, .int .i64 0, .int .i64 0, .int .i64 0, .int .i64 0, .int .i64 0, .int .i64 0, .int .i64 0, .int .i64 0, .int .i64 0, .int .i64 0, .int .i64 0, .int .i64 0, .int .i64 0, .int .i64 0, .int .i64 0, .int .i64 0, .int .i64 0, .int .i64 0, .int .i64 0, .int .i64 0, .int .i64 0, .int .i64 0, .int .i64 0, .int .i64 0, .int .i64 0, .int .i64 0, .int .i64 0, .int .i64 0, .int .i64 0, .int .i64 0, .int .i64 0, .int .i64 0] 63)).setRow w1.heap.size (V (glv r u)).toArray = w2; have A2 : Hid (Arr w2 w1.heap.size (V (glv r u)) 63) := Lib.hid (by rw [← hw_]; exact (Arr.new w1 (V zero49) _ rfl).row); have b1 : Below w1.heap.size w1 w2 := (by rw [← hw_]; exact arr.below_setRow ((Below.refl _ _).alloc (Nat.le_refl _) _) (Nat.le_refl _) _); have t_ : w1.heap.size + 1 ≤ w2.heap.size := (by rw [← hw_]; simp); clear hw_; replace B1 := Lib.hid (B1.out.trans (b1.mono B1.out.size)); clear b1)
    go_ret
    exact gives_eq HF.out (gives_nil B1.out)
  · have HS : Hid (Sf n r u) := Lib.hid (by have := transB_iff.1 hq; rwa [L1.out] at this)
    have HF := Lib.hid (angF_yes hq L1.out)
    have HG : Hid (glv r u = gl (ext r) (ext u) n) := Lib.hid (by rw [glv_yes hq, L1.out])
    clear hq
    rw [HG.out]
    go_wp2_with (first | (refine wpList_store_row rfl 63 _ _ rfl w1.heap.size (V (gl (ext r) (ext u) n)).toArray rfl rfl 63 (V zero49).toArray (Arr.new w1 (V zero49) _ rfl) (size49 (gl_len (ext_len _) (ext_len _) n)) (by simp [V_len, gl_len, ext_len, zero49]) (one_V _) ?_; generalize hw_ : (w1.alloc (.cells #[.int .i64 0, .int .i64 0, .int .i64 0, .int .i64 0, .int .i64 0, .int .i64 0, .int .i64 0, .int .i64 0, .int .i64 0, .int .i64 0, .int .i64 0, .int .i64 0, .int .i64 0, .int .i64 0, .int .i64 0, .int .i64 0, .int .i64 0, .int .i64 0, .int .i64 0, .int .i64 0, .int .i64 0, .int .i64 0, .int .i64 0, .int .i64 0, .int .i64 0, .int .i64 0, .int .i64 0, .int .i64 0, .int .i64 0, .int .i64 0, .int .i64 0, .int .i64 0, .int .i64 0, .int .i64 0, .int .i64 0, .int .i64 0, .int .i64 0, .int .i64 0, .int .i64 0, .int .i64 0, .int .i64 0, .int .i64 0, .int .i64 0, .int .i64 0, .int .i64 0, .int .i64 0, .int .i64 0, .int .i64 0, .int .i64 0] 63)).setRow w1.heap.size (V (gl (ext r) (ext u) n)).toArray = w2; have A2 : Hid (Arr w2 w1.heap.size (V (gl (ext r) (ext u) n)) 63) := Lib.hid (by rw [← hw_]; exact (Arr.new w1 (V zero49) _ rfl).row); have b1 : Below w1.heap.size w1 w2 := (by rw [← hw_]; exact arr.below_setRow ((Below.refl _ _).alloc (Nat.le_refl _) _) (Nat.le_refl _) _); have t_ : w1.heap.size + 1 ≤ w2.heap.size := (by rw [← hw_]; simp); clear hw_; replace B1 := Lib.hid (B1.out.trans (b1.mono B1.out.size)); clear b1) | (refine wpList_load_row rfl 63 (.tmp 3) rfl w1.heap.size rfl 63 (V (gl (ext r) (ext u) n)).toArray (0, 0) _ A2.out Try.underlying63 rfl (size49 (gl_len (ext_len _) (ext_len _) n)) ?_))
    refine (angles_any r u n _ HS.out).mono ?_
    rintro e w3 hg
    obtain ⟨v3, rfl, o3, b3⟩ := gives_eq HF.out (gives_later B1.out hg)
    have O3 := Lib.hid o3; have BB := Lib.hid b3; clear o3 b3 hg A2
    go_wp2_with fail
    go_ret
    exact ⟨v3, rfl, O3.out, BB.out⟩

theorem an_impl (v : Value) (r u : List Int) (hi : Nat) (w : World) (hx : Srd w hi v r u) (hn : r.length ≤ 1048576) (hm : u.length ≤ 1048576) :
    Calls Try.prog 12 #[v] w fun e w' => ∃ v, e = .returned v ∧ w'.ownsRow w.heap.size 3 1 v (angF r u).length (V (angF r u)) ∧ Below w.heap.size w w' :=
  an_impl0 v r u hi w hx hn hm

set_option maxHeartbeats 2000000 in
theorem st_impl0 (v : Value) (r u : List Int) (hi : Nat) (w : World) (hx : Srd w hi v r u) (hn : r.length ≤ 1048576) (hm : u.length ≤ 1048576) :
    Calls Try.prog 13 #[v] w (Gives (strF r u) w) := by
  have HX := Lib.hid hx; clear hx
  obtain ⟨P, n, c, Q, m, d, rfl, q1, q2, e1, e2, ht, HR⟩ := HX.out.open
  obtain ⟨i0, hi0, hz0, hz1, hz2⟩ := info_parts infoI
  clear q1 q2 HR e1 e2
  go_enter Try.func13, Try.ntmps13
  go_wp2_with fail
  refine (an_impl _ r u hi _ (HX.out.keep ((Below.refl hi w).alloc ht _) (Nat.le_refl _)) hn hm).mono ?_
  rintro e w1 ⟨v1, rfl, o1, b1⟩
  obtain ⟨P1, c1, rfl⟩ := own_form o1
  have RA : Hid (Row w1 (w.heap.size + 1) w1.heap.size P1 (angF r u).length (V (angF r u))) := Lib.hid (by have := Row.of_own o1; simpa using this)
  have S0 : Hid (Grows w1 w1 (.slice none 0 0) []) := Lib.hid ⟨⟨rfl, .inl ⟨rfl, rfl⟩⟩, Below.refl _ _⟩
  have BW : Hid (Below w.heap.size w w1) := Lib.hid (((Below.refl _ _).alloc (Nat.le_refl _) _).trans (b1.mono (by simp)))
  clear o1 b1
  have HF : Hid (strF r u = strL (angF r u)) := Lib.hid rfl
  have HR := Lib.hid (angF_range r u)
  have hl := angF_len r u
  generalize angF r u = l at *
  go_wp2
  go_loopw [3, 9] (fun v i wr => ∃ k : Nat, k ≤ l.length ∧ i = .int .i64 k ∧ Grows w1 wr v (strL (l.take k))) (fun _ i _ => l.length - (intOf i).toNat)
  case atStart => exact ⟨0, Nat.zero_le _, rfl, by simpa [strL] using S0.out⟩
  case round =>
    obtain ⟨k, hk, rfl, hm⟩ := hrel
    obtain ⟨C, cc, rfl⟩ := own_form hm.own
    have HM := Lib.hid hm; clear hm
    have hsz : w1.heap.size ≤ wr.heap.size := HM.out.below.size
    by_cases hlt : k < l.length
    · obtain ⟨g, off, uu, rfl, hg1, hg2, hxu, hcx, hfx⟩ := (Row.keep RA.out HM.out.below (Nat.le_refl _)).at_ hlt
      obtain ⟨x, hxs, rfl⟩ := V_at hxu
      obtain ⟨hx0, hx24⟩ := HR.out x (List.mem_of_getElem? hxs)
      have NX : Hid (strL (l.take (k + 1)) = if 1 < x then strL (l.take k) ++ [x - 1] else strL (l.take k)) := Lib.hid (by rw [List.take_add_one, hxs]; exact strL_snoc _ _)
      have HLN : (strL (l.take k)).length ≤ l.length := by have := strL_len (l.take k); simp at this; omega
      clear hxu hxs hfx
      generalize strL (l.take k) = lk at *
      by_cases hx1 : 1 < x
      · rw [if_pos hx1] at NX
        go_wp2_with (at_builtin; refine wpList_append_one2 wr _ _ rfl _ _ 23 rfl w1.heap.size 3 i0 _ 8 1 Try.underlying23 hi0 hz0 hz1 rfl hz2 rfl _ _ _ rfl HM.out.own rfl rfl ?c4 (by decide) hsz ?_)
        case c4 => omega
        intro v' w' ho hg hb
        have HN : Hid (Grows w1 w' v' (strL (l.take (k + 1)))) := Lib.hid (by rw [NX.out]; exact HM.out.next ho rfl hg)
        clear ho hg hb HM hcx
        go_wp2
        go_roundw
        case rel => exact ⟨k + 1, by omega, by go_num, HN.out⟩
        case measure => simp [intOf]; omega
      · rw [if_neg hx1] at NX
        have hd : decide (1 < x) = false := by simp; omega
        clear hx1
        go_wp2
        go_roundw
        case rel => exact ⟨k + 1, by omega, by go_num, by rw [NX.out]; exact HM.out⟩
        case measure => simp [intOf]; omega
    · obtain rfl : k = l.length := by omega
      have e : l.take l.length = l := List.take_of_length_le (Nat.le_refl _)
      rw [e] at HM ⊢
      go_wp2
      go_ret
      exact gives_eq HF.out ⟨_, rfl, own_base HM.out.own BW.out.size, BW.out.trans (HM.out.below.mono BW.out.size)⟩

theorem st_impl (v : Value) (r u : List Int) (hi : Nat) (w : World) (hx : Srd w hi v r u) (hn : r.length ≤ 1048576) (hm : u.length ≤ 1048576) :
    Calls Try.prog 13 #[v] w fun e w' => ∃ v, e = .returned v ∧ w'.ownsRow w.heap.size 3 1 v (strF r u).length (V (strF r u)) ∧ Below w.heap.size w w' :=
  st_impl0 v r u hi w hx hn hm

set_option maxHeartbeats 4000000 in
theorem ge_impl (v : Value) (r u : List Int) (hi : Nat) (w : World) (hx : Srd w hi v r u) (hn : r.length ≤ 1048576) (hm : u.length ≤ 1048576) :
    Calls Try.prog 14 #[v] w fun e w' => e = .returned (.int .i64 (genF r u)) ∧ Below w.heap.size w w' := by
  have HX := Lib.hid hx; clear hx
  obtain ⟨P, n, c, Q, m, d, rfl, q1, q2, e1, e2, ht, HR⟩ := HX.out.open
  have L1 := Lib.hid q1
  clear HR
  go_enter Try.func14, Try.ntmps14
  go_wp2_with fail
  refine (gluingOf_any _ r u hi _ (HX.out.keep ((Below.refl hi w).alloc ht _) (Nat.le_refl _)) hn hm).mono ?_
  rintro e w1 ⟨rfl, b1⟩
  have B1 := Lib.hid (below1 _ _ b1); clear b1

  cases hq : transB r u
  · have HF := Lib.hid (genF_no hq); clear hq
    go_wp2_with (refine wpList_store_row rfl 63 _ _ rfl w1.heap.size (V (glv r u)).toArray rfl rfl 63 (V zero49).toArray (Arr.new w1 (V zero49) _ rfl) (size49 (glv_len _ _)) (by simp [V_len, glv_len, zero49]) (one_V _) ?_; generalize hw_ : (w1.alloc (.cells #[.int .i64 0, .int .i64 0, .int .i64 0, .int .i64 0, .int .i64 0, .int .i64 0, .int .i64 0, .int .i64 0, .int .i64 0, .int .i64 0, .int .i64 0, .int .i64 0, .int .i64 0, .int .i64 0, .int .i64 0, .int .i64 0, .int .i64 0, .int .i64 0, .int .i64 0, .int .i64 0, .int .i64 0, .int .i64 0, .int .i64 0, .int .i64 0, .int .i64 0, .int .i64 0, .int .i64 0, .int .i64 0, .int .i64 0, .int .i64 0, .int .i64 0, .int .i64 0, .int .i64 0, .int .i64 0, .int .i64 0, .int .i64 0, .int .i64 0, .int .i64 0, .int .i64 0, .int .i64 0, .int .i64 0, .int .i64 0, .int .i64 0, .int .i64 0, .int .i64 0, .int .i64 0, .int .i64 0, .int .i64 0, .int .i64 0] 63)).setRow w1.heap.size (V (glv r u)).toArray = w2; have A2 : Hid (Arr w2 w1.heap.size (V (glv r u)) 63) := Lib.hid (by rw [← hw_]; exact (Arr.new w1 (V zero49) _ rfl).row); have b1 : Below w1.heap.size w1 w2 := (by rw [← hw_]; exact arr.below_setRow ((Below.refl _ _).alloc (Nat.le_refl _) _) (Nat.le_refl _) _); have t_ : w1.heap.size + 1 ≤ w2.heap.size := (by rw [← hw_]; simp); clear hw_; replace B1 := Lib.hid (B1.out.trans (b1.mono B1.out.size)); clear b1)
    go_ret
    exact ⟨ret_int HF.out.symm, B1.out⟩
  · have HS : Hid (Sf n r u) := Lib.hid (by have := transB_iff.1 hq; rwa [L1.out] at this)
    have HF := Lib.hid (genF_yes hq L1.out)
    have HC : Hid ((sortD (lensF (cso (comm r u) n n))).length = (corF r u).length) := Lib.hid (by rw [sortD_len, corF_yes hq, L1.out]; simp [lensF])
    have hkn : (corF r u).length ≤ n := by rw [← L1.out]; exact corF_le r u
    have hk24 : n ≤ 24 := HS.out.small
    have HG : Hid (glv r u = gl (ext r) (ext u) n) := Lib.hid (by rw [glv_yes hq, L1.out])
    clear hq
    rw [HG.out]
    go_wp2_with (refine wpList_store_row rfl 63 _ _ rfl w1.heap.size (V (gl (ext r) (ext u) n)).toArray rfl rfl 63 (V zero49).toArray (Arr.new w1 (V zero49) _ rfl) (size49 (gl_len (ext_len _) (ext_len _) n)) (by simp [V_len, gl_len, ext_len, zero49]) (one_V _) ?_; generalize hw_ : (w1.alloc (.cells #[.int .i64 0, .int .i64 0, .int .i64 0, .int .i64 0, .int .i64 0, .int .i64 0, .int .i64 0, .int .i64 0, .int .i64 0, .int .i64 0, .int .i64 0, .int .i64 0, .int .i64 0, .int .i64 0, .int .i64 0, .int .i64 0, .int .i64 0, .int .i64 0, .int .i64 0, .int .i64 0, .int .i64 0, .int .i64 0, .int .i64 0, .int .i64 0, .int .i64 0, .int .i64 0, .int .i64 0, .int .i64 0, .int .i64 0, .int .i64 0, .int .i64 0, .int .i64 0, .int .i64 0, .int .i64 0, .int .i64 0, .int .i64 0, .int .i64 0, .int .i64 0, .int .i64 0, .int .i64 0, .int .i64 0, .int .i64 0, .int .i64 0, .int .i64 0, .int .i64 0, .int .i64 0, .int .i64 0, .int .i64 0, .int .i64 0] 63)).setRow w1.heap.size (V (gl (ext r) (ext u) n)).toArray = w2; have A2 : Hid (Arr w2 w1.heap.size (V (gl (ext r) (ext u) n)) 63) := Lib.hid (by rw [← hw_]; exact (Arr.new w1 (V zero49) _ rfl).row); have b1 : Below w1.heap.size w1 w2 := (by rw [← hw_]; exact arr.below_setRow ((Below.refl _ _).alloc (Nat.le_refl _) _) (Nat.le_refl _) _); have t_ : w1.heap.size + 1 ≤ w2.heap.size := (by rw [← hw_]; simp); clear hw_; replace B1 := Lib.hid (B1.out.trans (b1.mono B1.out.size)); clear b1)
    refine wp_region_held_drew (S := Hld w2.heap.size w2.heap.size w2 [(w1.heap.size, V (gl (ext r) (ext u) n))]) (by kernel_rfl) (Hld.start1 A2.out) (fun hHeld => ?_)
    have B2 := Lib.hid (B1.out.trans (hHeld.below.mono B1.out.size))
    generalize w2.drew = w3 at *
    clear A2 B1
    refine wpAnyH_take (i := 0) (v := .pointer (some ⟨w1.heap.size, 48, none⟩)) rfl (by kernel_rfl) (by kernel_rfl) (by kernel_rfl) (fun _ _ _ h => h) (Or.inl ⟨by rfl, fun w hSw => by go_simp⟩) hHeld ?_
    refine wpAnyH_take (i := 1) (v := .int .i64 n) rfl (by kernel_rfl) (by kernel_rfl) (by kernel_rfl) (fun _ _ _ h => h) (Or.inl ⟨by rfl, fun w hSw => by have := rg_count (ext_len r) (ext_len u) hSw.fst; go_simp⟩) hHeld ?_
    refine wpAnyH_take (i := 2) (v := .agg (V (gl (ext r) (ext u) n)).toArray) rfl (by kernel_rfl) (by kernel_rfl) (by kernel_rfl) (fun _ _ _ h => h) (yieldsIf_load_mid (by rfl) _ _ rfl w1.heap.size 0 rfl (V (gl (ext r) (ext u) n)) _ (fun w h => h.fst) Try.underlying63 rfl (hi49 (gl_len (ext_len _) (ext_len _) _))) hHeld ?_
    refine wpAnyH_ready (rs := [3]) (by kernel_rfl) (by simp) (AllReadyH.cons rfl (fun K hK => ?_) AllReadyH.nil)
    go_simp
    refine (angles_any r u n _ HS.out).mono ?_
    rintro e w4 ⟨v4, rfl, o4, b1⟩
    obtain ⟨P4, c4, rfl⟩ := own_form o4
    rw [HC.out]
    replace B2 := Lib.hid (B2.out.trans (b1.mono B2.out.size))
    clear o4
    go_wp2_with fail
    have hHeld2 := hHeld.later b1 (Nat.le_refl _); clear b1 hHeld
    refine hK.out _ _ hHeld2 (fun hHeld => ?_)
    clear hK K hHeld2
    generalize (corF r u).length = k at *
    have hw1 : IntKind.i64.wrap ((n : Int) - (k : Int)) = (n : Int) - (k : Int) := wrap_in (by omega) (by omega)
    have hw2 : IntKind.i64.wrap (((n : Int) - (k : Int)).tdiv 2) = ((n : Int) - (k : Int)) / 2 := by rw [Int.tdiv_eq_ediv_of_nonneg (by omega)]; exact wrap_in (by omega) (by omega)
    have hw3 : IntKind.i64.wrap (1 + ((n : Int) - (k : Int)) / 2) = 1 + ((n : Int) - (k : Int)) / 2 := wrap_in (by omega) (by omega)
    refine wpAnyH_take (i := 4) (v := .int .i64 k) rfl (by kernel_rfl) (by kernel_rfl) (by kernel_rfl) (fun _ _ _ h => h) (Or.inl ⟨by rfl, fun w hSw => by go_simp⟩) hHeld ?_
    refine wpAnyH_take (i := 5) (v := .int .i64 ((n : Int) - (k : Int))) rfl (by kernel_rfl) (by kernel_rfl) (by kernel_rfl) (fun _ _ _ h => h) (Or.inl ⟨by rfl, fun w hSw => by go_simp⟩) hHeld ?_
    refine wpAnyH_take (i := 6) (v := .int .i64 (((n : Int) - (k : Int)) / 2)) rfl (by kernel_rfl) (by kernel_rfl) (by kernel_rfl) (fun _ _ _ h => h) (Or.inl ⟨by rfl, fun w hSw => by go_simp⟩) hHeld ?_
    refine wpAnyH_take (i := 7) (v := .int .i64 (1 + ((n : Int) - (k : Int)) / 2)) rfl (by kernel_rfl) (by kernel_rfl) (by kernel_rfl) (fun _ _ _ h => h) (Or.inl ⟨by rfl, fun w hSw => by go_simp⟩) hHeld ?_
    refine wpAnyH_ready (rs := [8]) (by kernel_rfl) (by simp) (AllReadyH.cons rfl (fun K hK => ?_) AllReadyH.nil)
    go_simp
    refine hK.out _ _ hHeld (fun hHeld2 => ?_)
    clear hK K hHeld hHeld2
    refine wpAnyH_done (by kernel_rfl) ?_ _
    go_wp2_with fail
    go_ret
    exact ⟨ret_int HF.out.symm, B2.out⟩
end Go.Proofs.Ytpmojmhamgcfmaa.gl
