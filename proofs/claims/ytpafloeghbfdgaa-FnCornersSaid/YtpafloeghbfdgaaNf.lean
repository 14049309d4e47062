/-
  NamesFrom, of the model and of the program.
-/
import Derived.Test.YtpafloeghbfdgaaNr
namespace Go.Proofs.Ytpafloeghbfdgaa.gl
open Go.ChangeShapes Go.WideShapes Go.ChangeAt Go.RowKit
open Go.Proofs.Ytpafloeghbfdgaa.mem Go.Proofs.Ytpafloeghbfdgaa.ints Go.Proofs.Ytpafloeghbfdgaa.arr Go.Proofs.Ytpafloeghbfdgaa.pm Go.Proofs.Ytpafloeghbfdgaa.permOk Go.Proofs.Ytpafloeghbfdgaa.permOf Go.Proofs.Ytpafloeghbfdgaa.inv Go.Proofs.Ytpafloeghbfdgaa.fns Go.Proofs.Ytpafloeghbfdgaa.sf
set_option linter.unusedVariables false
set_option maxRecDepth 100000

theorem ext_take (xs : List Int) (h : xs.length ≤ 24) : (ext xs).take xs.length = xs := by
  refine list_eq xs.length (by simp [ext_len]; omega) rfl fun i hi => ?_
  have e : (ext xs).getD i 0 = xs.getD i 0 := by rw [ext_at (by omega), if_pos hi]
  rw [← e]
  simp [List.getD, hi]
/-- The names from a square, if there is one. -/
def nfF (r u : List Int) (a : Int) : List Int := if transB r u = true ∧ 0 ≤ a ∧ a < r.length then nm r u a else []
theorem nfF_no {r u : List Int} {a : Int} (h : ¬ (transB r u = true ∧ 0 ≤ a ∧ a < r.length)) : nfF r u a = [] := by unfold nfF; rw [if_neg h]
theorem nfF_yes {r u : List Int} {a : Int} (h : transB r u = true) (a0 : 0 ≤ a) (a1 : a < r.length) : nfF r u a = nm r u a := by unfold nfF; rw [if_pos ⟨h, a0, a1⟩]
theorem nfF_len (r u : List Int) (a : Int) : (nfF r u a).length ≤ 1048576 := by
  unfold nfF; split
  · rename_i h
    obtain ⟨nk, nl⟩ := (transB_iff.1 h.1).nok h.2.1 h.2.2
    have := nk.len; omega
  · simp

set_option maxHeartbeats 1000000 in
theorem nf_impl0 (v : Value) (r u : List Int) (a : Int) (hi : Nat) (w : World) (hx : Srd w hi v r u) (hn : r.length ≤ 1048576) (hm : u.length ≤ 1048576) :
    Calls Try.prog 44 #[v, .int .i64 a] w (Gives (nfF r u a) w) := by
  have HX := Lib.hid hx; clear hx
  obtain ⟨P, n, c, Q, m, d, rfl, q1, q2, e1, e2, ht, HR⟩ := HX.out.open
  have L1 := Lib.hid q1
  go_enter Try.func44, Try.ntmps44
  go_wp2_with fail
  refine (gluingOf_any _ r u hi _ (HX.out.keep ((Below.refl hi w).alloc ht _) (Nat.le_refl _)) hn hm).mono ?_
  rintro e w1 ⟨rfl, b1⟩
  have B1 := Lib.hid (below1 _ _ b1); clear b1
  cases hq : transB r u
  · have HF := Lib.hid (nfF_no (r := r) (u := u) (a := a) (fun h => by rw [hq] at h; cases h.1))
    clear hq
    go_wp2_with (refine wpList_store_row rfl 63 _ _ rfl w1.heap.size (V (glv r u)).toArray rfl rfl 63 (V zero49).toArray (Arr.new w1 (V zero49) _ rfl) (size49 (glv_len _ _)) (by simp [V_len, glv_len, zero49]) (one_V _) ?_; generalize hw2 : (w1.alloc (.cells #[.int .i64 0, .int .i64 0, .int .i64 0, .int .i64 0, .int .i64 0, .int .i64 0, .int .i64 0, .int .i64 0, .int .i64 0, .int .i64 0, .int .i64 0, .int .i64 0, .int .i64 0, .int .i64 0, .int .i64 0, .int .i64 0, .int .i64 0, .int .i64 0, .int .i64 0, .int .i64 0, .int .i64 0, .int .i64 0, .int .i64 0, .int .i64 0, .int .i64 0, .int .i64 0, .int .i64 0, .int .i64 0, .int .i64 0, .int .i64 0, .int .i64 0, .int .i64 0, .int .i64 0, .int .i64 0, .int .i64 0, .int .i64 0, .int .i64 0, .int .i64 0, .int .i64 0, .int .i64 0, .int .i64 0, .int .i64 0, .int .i64 0, .int .i64 0, .int .i64 0, .int .i64 0, .int .i64 0, .int .i64 0, .int .i64 0] 63)).setRow w1.heap.size (V (glv r u)).toArray = w2; have A2 : Hid (Arr w2 w1.heap.size (V (glv r u)) 63) := Lib.hid (by rw [← hw2]; exact (Arr.new w1 (V zero49) _ rfl).row); have b1 : Below w1.heap.size w1 w2 := (by rw [← hw2]; exact arr.below_setRow ((Below.refl _ _).alloc (Nat.le_refl _) _) (Nat.le_refl _) _); have s2 := b1.size; replace B1 : Hid (Below w.heap.size w w2) := Lib.hid (B1.out.trans (b1.mono B1.out.size)); clear hw2 b1)
    go_ret
    exact HF.out ▸ gives_nil B1.out
  · by_cases ha : a < 0
    · have HF := Lib.hid (nfF_no (r := r) (u := u) (a := a) (fun h => by omega))
      clear hq
      go_wp2_with (refine wpList_store_row rfl 63 _ _ rfl w1.heap.size (V (glv r u)).toArray rfl rfl 63 (V zero49).toArray (Arr.new w1 (V zero49) _ rfl) (size49 (glv_len _ _)) (by simp [V_len, glv_len, zero49]) (one_V _) ?_; generalize hw2 : (w1.alloc (.cells #[.int .i64 0, .int .i64 0, .int .i64 0, .int .i64 0, .int .i64 0, .int .i64 0, .int .i64 0, .int .i64 0, .int .i64 0, .int .i64 0, .int .i64 0, .int .i64 0, .int .i64 0, .int .i64 0, .int .i64 0, .int .i64 0, .int .i64 0, .int .i64 0, .int .i64 0, .int .i64 0, .int .i64 0, .int .i64 0, .int .i64 0, .int .i64 0, .int .i64 0, .int .i64 0, .int .i64 0, .int .i64 0, .int .i64 0, .int .i64 0, .int .i64 0, .int .i64 0, .int .i64 0, .int .i64 0, .int .i64 0, .int .i64 0, .int .i64 0, .int .i64 0, .int .i64 0, .int .i64 0, .int .i64 0, .int .i64 0, .int .i64 0, .int .i64 0, .int .i64 0, .int .i64 0, .int .i64 0, .int .i64 0, .int .i64 0] 63)).setRow w1.heap.size (V (glv r u)).toArray = w2; have A2 : Hid (Arr w2 w1.heap.size (V (glv r u)) 63) := Lib.hid (by rw [← hw2]; exact (Arr.new w1 (V zero49) _ rfl).row); have b1 : Below w1.heap.size w1 w2 := (by rw [← hw2]; exact arr.below_setRow ((Below.refl _ _).alloc (Nat.le_refl _) _) (Nat.le_refl _) _); have s2 := b1.size; replace B1 : Hid (Below w.heap.size w w2) := Lib.hid (B1.out.trans (b1.mono B1.out.size)); clear hw2 b1)
      go_ret
      exact HF.out ▸ gives_nil B1.out
    · have hd : decide (a < 0) = false := by simp; omega
      by_cases hb : (n : Int) ≤ a
      · have HF := Lib.hid (nfF_no (r := r) (u := u) (a := a) (fun h => by omega))
        have HQ := Lib.hid hq
        clear ha hq
        go_wp2_with (refine wpList_store_row rfl 63 _ _ rfl w1.heap.size (V (glv r u)).toArray rfl rfl 63 (V zero49).toArray (Arr.new w1 (V zero49) _ rfl) (size49 (glv_len _ _)) (by simp [V_len, glv_len, zero49]) (one_V _) ?_; generalize hw2 : (w1.alloc (.cells #[.int .i64 0, .int .i64 0, .int .i64 0, .int .i64 0, .int .i64 0, .int .i64 0, .int .i64 0, .int .i64 0, .int .i64 0, .int .i64 0, .int .i64 0, .int .i64 0, .int .i64 0, .int .i64 0, .int .i64 0, .int .i64 0, .int .i64 0, .int .i64 0, .int .i64 0, .int .i64 0, .int .i64 0, .int .i64 0, .int .i64 0, .int .i64 0, .int .i64 0, .int .i64 0, .int .i64 0, .int .i64 0, .int .i64 0, .int .i64 0, .int .i64 0, .int .i64 0, .int .i64 0, .int .i64 0, .int .i64 0, .int .i64 0, .int .i64 0, .int .i64 0, .int .i64 0, .int .i64 0, .int .i64 0, .int .i64 0, .int .i64 0, .int .i64 0, .int .i64 0, .int .i64 0, .int .i64 0, .int .i64 0, .int .i64 0] 63)).setRow w1.heap.size (V (glv r u)).toArray = w2; have A2 : Hid (Arr w2 w1.heap.size (V (glv r u)) 63) := Lib.hid (by rw [← hw2]; exact (Arr.new w1 (V zero49) _ rfl).row); have b1 : Below w1.heap.size w1 w2 := (by rw [← hw2]; exact arr.below_setRow ((Below.refl _ _).alloc (Nat.le_refl _) _) (Nat.le_refl _) _); have s2 := b1.size; replace B1 : Hid (Below w.heap.size w w2) := Lib.hid (B1.out.trans (b1.mono B1.out.size)); clear hw2 b1; have cc := gl_count (n := r.length) (ext_len r) (ext_len u) (by rw [glv_yes HQ.out] at A2; exact A2.out); rw [L1.out] at cc)
        go_ret
        exact HF.out ▸ gives_nil B1.out
      · have hd2 : decide ((n : Int) ≤ a) = false := by simp; omega
        have HS := Lib.hid (transB_iff.1 hq)
        have HF := Lib.hid (nfF_yes (r := r) (u := u) (a := a) hq (by omega) (by omega))
        have HQ := Lib.hid hq
        clear hq
        go_wp2_with (refine wpList_store_row rfl 63 _ _ rfl w1.heap.size (V (glv r u)).toArray rfl rfl 63 (V zero49).toArray (Arr.new w1 (V zero49) _ rfl) (size49 (glv_len _ _)) (by simp [V_len, glv_len, zero49]) (one_V _) ?_; generalize hw2 : (w1.alloc (.cells #[.int .i64 0, .int .i64 0, .int .i64 0, .int .i64 0, .int .i64 0, .int .i64 0, .int .i64 0, .int .i64 0, .int .i64 0, .int .i64 0, .int .i64 0, .int .i64 0, .int .i64 0, .int .i64 0, .int .i64 0, .int .i64 0, .int .i64 0, .int .i64 0, .int .i64 0, .int .i64 0, .int .i64 0, .int .i64 0, .int .i64 0, .int .i64 0, .int .i64 0, .int .i64 0, .int .i64 0, .int .i64 0, .int .i64 0, .int .i64 0, .int .i64 0, .int .i64 0, .int .i64 0, .int .i64 0, .int .i64 0, .int .i64 0, .int .i64 0, .int .i64 0, .int .i64 0, .int .i64 0, .int .i64 0, .int .i64 0, .int .i64 0, .int .i64 0, .int .i64 0, .int .i64 0, .int .i64 0, .int .i64 0, .int .i64 0] 63)).setRow w1.heap.size (V (glv r u)).toArray = w2; have A2 : Hid (Arr w2 w1.heap.size (V (glv r u)) 63) := Lib.hid (by rw [← hw2]; exact (Arr.new w1 (V zero49) _ rfl).row); have b1 : Below w1.heap.size w1 w2 := (by rw [← hw2]; exact arr.below_setRow ((Below.refl _ _).alloc (Nat.le_refl _) _) (Nat.le_refl _) _); have s2 := b1.size; replace B1 : Hid (Below w.heap.size w w2) := Lib.hid (B1.out.trans (b1.mono B1.out.size)); clear hw2 b1; have cc := gl_count (n := r.length) (ext_len r) (ext_len u) (by rw [glv_yes HQ.out] at A2; exact A2.out); rw [L1.out] at cc)
        rw [glv_yes HQ.out, L1.out] at A2
        obtain ⟨f, rfl⟩ := Int.eq_ofNat_of_zero_le (show 0 ≤ a by omega)
        have hf : f < n := by omega
        have hn24 : n ≤ 24 := by have := HS.out.r.len; omega
        have HE := Lib.hid (nmsF_eq HS.out (f := (f : Int)) (by omega) (by omega))
        have HL := Lib.hid (HS.out.nok (f := (f : Int)) (by omega) (by omega)).2
        have HT : Hid ((nmsF (ext r) (ext u) (f : Int)).take n = nm r u (f : Int)) := Lib.hid (by rw [HE.out, ← L1.out, ← HL.out]; exact ext_take _ (by rw [HL.out]; omega))
        refine wp_region_held_drew (S := Hld w2.heap.size w2.heap.size w2 [(w1.heap.size, V (gl (ext r) (ext u) n))]) (by kernel_rfl) (Hld.start1 A2.out) (fun hHeld => ?_)
        have B2 := Lib.hid (B1.out.trans (hHeld.below.mono B1.out.size))
        generalize w2.drew = w3 at *
        clear A2 B1 cc
        refine wpAnyH_take (i := 0) (v := .agg (V (gl (ext r) (ext u) n)).toArray) rfl (by kernel_rfl) (by kernel_rfl) (by kernel_rfl) (fun _ _ _ h => h) (yieldsIf_load_mid (by rfl) _ _ rfl w1.heap.size 0 rfl (V (gl (ext r) (ext u) n)) _ (fun w h => h.fst) Try.underlying63 rfl (hi49 (gl_len (ext_len _) (ext_len _) _))) hHeld ?_
        refine wpAnyH_take (i := 1) (v := .int .i64 (f : Int)) rfl (by kernel_rfl) (by kernel_rfl) (by kernel_rfl) (fun _ _ _ h => h) (Or.inl ⟨by rfl, fun w hSw => by go_simp⟩) hHeld ?_
        refine wpAnyH_take (i := 3) (v := .pointer (some ⟨w1.heap.size, 48, none⟩)) rfl (by kernel_rfl) (by kernel_rfl) (by kernel_rfl) (fun _ _ _ h => h) (Or.inl ⟨by rfl, fun w hSw => by go_simp⟩) hHeld ?_
        refine wpAnyH_take (i := 4) (v := .int .i64 n) rfl (by kernel_rfl) (by kernel_rfl) (by kernel_rfl) (fun _ _ _ h => h) (Or.inl ⟨by rfl, fun w hSw => by have := rg_count (ext_len r) (ext_len u) hSw.fst; go_simp⟩) hHeld ?_
        refine wpAnyH_ready (rs := [2]) (by kernel_rfl) (by simp) (AllReadyH.cons rfl (fun K hK => ?_) AllReadyH.nil)
        go_simp
        refine (names_any (ext r) (ext u) n f _ HS.out.r.sq HS.out.u.sq (by omega)).mono ?_
        rintro e w4 ⟨rfl, b1⟩
        replace B2 := Lib.hid (B2.out.trans (b1.mono B2.out.size))
        go_wp2_with fail
        have hHeld2 := hHeld.later b1 (Nat.le_refl _); clear b1 hHeld
        refine hK.out _ _ hHeld2 (fun hHeld => ?_)
        clear hK K hHeld2
        refine wpAnyH_ready (rs := [5]) (by kernel_rfl) (by simp) (AllReadyH.cons rfl (fun K hK => ?_) AllReadyH.nil)
        go_simp
        refine (list_gives (nmsF (ext r) (ext u) (f : Int)) n _ (nms_len _ _ _ _) hn24).mono ?_
        rintro e w5 hg
        have hg2 := hg
        rw [HT.out] at hg2
        obtain ⟨v, rfl, ho, hb⟩ := gives_later B2.out hg2
        obtain ⟨v', hv', ho', b1⟩ := hg
        obtain rfl : v = v' := by injection hv'
        have HOW := Lib.hid ho; have HB := Lib.hid hb; clear ho hb ho' hg2 hv'
        go_wp2_with fail
        have hHeld2 := hHeld.later b1 (Nat.le_refl _); clear b1 hHeld
        refine hK.out _ _ hHeld2 (fun hHeld => ?_)
        clear hK K hHeld2
        refine wpAnyH_ready (rs := [6]) (by kernel_rfl) (by simp) (AllReadyH.cons rfl (fun K hK => ?_) AllReadyH.nil)
        go_simp
        refine hK.out _ _ hHeld (fun hHeld2 => ?_)
        clear hK K hHeld2
        refine wpAnyH_done (by kernel_rfl) ?_ _
        go_wp2_with fail
        go_ret
        exact HF.out ▸ ⟨v, rfl, HOW.out, HB.out⟩
theorem nf_impl (v : Value) (r u : List Int) (a : Int) (hi : Nat) (w : World) (hx : Srd w hi v r u) (hn : r.length ≤ 1048576) (hm : u.length ≤ 1048576) (lo : -9223372036854775808 ≤ a) (hi' : a ≤ 9223372036854775807) :
    Calls Try.prog 44 #[v, .int .i64 a] w fun e w' => ∃ v, e = .returned v ∧ w'.ownsRow w.heap.size 3 1 v (nfF r u a).length (V (nfF r u a)) ∧ Below w.heap.size w w' :=
  nf_impl0 v r u a hi w hx hn hm
end Go.Proofs.Ytpafloeghbfdgaa.gl
