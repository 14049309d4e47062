/-
  Contract of the program's AroundOf.
-/
import Derived.Test.YtpafloeghbfdgaaAr
namespace Go.Proofs.Ytpafloeghbfdgaa.gl
open Go.ChangeShapes Go.WideShapes Go.ChangeAt Go.RowKit
open Go.Proofs.Ytpafloeghbfdgaa.mem Go.Proofs.Ytpafloeghbfdgaa.ints Go.Proofs.Ytpafloeghbfdgaa.arr Go.Proofs.Ytpafloeghbfdgaa.pm Go.Proofs.Ytpafloeghbfdgaa.permOk Go.Proofs.Ytpafloeghbfdgaa.permOf Go.Proofs.Ytpafloeghbfdgaa.inv Go.Proofs.Ytpafloeghbfdgaa.fns Go.Proofs.Ytpafloeghbfdgaa.sf
set_option linter.unusedVariables false
set_option maxRecDepth 100000

theorem gives_eqi {r r' : List Int} {w w' : World} {e : Ending} (h : r' = r) (g : Gives r w e w') : Gives r' w e w' := h ▸ g

set_option maxHeartbeats 2000000 in
theorem ar_impl0 (v : Value) (r u : List Int) (hi : Nat) (w : World) (hx : Srd w hi v r u) (hn : r.length ≤ 1048576) (hm : u.length ≤ 1048576) :
    Calls Try.prog 19 #[v] w (Gives (arF r u) w) := by
  have HX := Lib.hid hx; clear hx
  obtain ⟨P, n, c, Q, m, d, rfl, q1, q2, e1, e2, ht, HR⟩ := HX.out.open
  have L1 := Lib.hid q1
  clear HR
  go_enter Try.func19, Try.ntmps19
  go_wp2_with fail
  refine (gluingOf_any _ r u hi _ (HX.out.keep ((Below.refl hi w).alloc ht _) (Nat.le_refl _)) hn hm).mono ?_
  rintro e w1 ⟨rfl, b1⟩
  have B1 := Lib.hid (below1 _ _ b1); clear b1

  cases hq : transB r u
  · have HF := Lib.hid (arF_no hq); clear hq
    go_wp2_with (refine wpList_store_row rfl 63 _ _ rfl w1.heap.size (V (glv r u)).toArray rfl rfl 63 (V zero49).toArray (Arr.new w1 (V zero49) _ rfl) (size49 (glv_len _ _)) (by simp [V_len, glv_len, zero49]) (one_V _) ?_; generalize hw_ : (w1.alloc (.cells #[.int .i64 0, .int .i64 0, .int .i64 0, .int .i64 0, .int .i64 0, .int .i64 0, .int .i64 0, .int .i64 0, .int .i64 0, .int .i64 0, .int .i64 0, .int .i64 0, .int .i64 0, .int .i64 0, .int .i64 0, .int .i64 0, .int .i64 0, .int .i64 0, .int .i64 0, .int .i64 0, .int .i64 0, .int .i64 0, .int .i64 0, .int .i64 0, .int .i64 0, .int .i64 0, .int .i64 0, .int .i64 0, .int .i64 0, .int .i64 0, .int .i64 0, .int .i64 0, .int .i64 0, .int .i64 0, .int .i64 0, .int .i64 0, .int .i64 0, .int .i64 0, .int .i64 0, .int .i64 0, .int .i64 0, .int .i64 0, .int .i64 0, .int .i64 0, .int .i64 0, .int .i64 0, .int .i64 0, .int .i64 0, .int .i64 0] 63)).setRow w1.heap.size (V (glv r u)).toArray = w2; have A2 : Hid (Arr w2 w1.heap.size (V (glv r u)) 63) := Lib.hid (by rw [← hw_]; exact (Arr.new w1 (V zero49) _ rfl).row); have b1 : Below w1.heap.size w1 w2 := (by rw [← hw_]; exact arr.below_setRow ((Below.refl _ _).alloc (Nat.le_refl _) _) (Nat.le_refl _) _); have t_ : w1.heap.size + 1 ≤ w2.heap.size := (by rw [← hw_]; simp); clear hw_; replace B1 := Lib.hid (B1.out.trans (b1.mono B1.out.size)); clear b1)
    go_ret
    exact gives_eqi HF.out (gives_nil B1.out)
  · have HS := Lib.hid (transB_iff.1 hq)
    have HF := Lib.hid (arF_yes hq)
    have HG : Hid (glv r u = gl (ext r) (ext u) n) := Lib.hid (by rw [glv_yes hq, L1.out])
    have hn24 : n ≤ 24 := by have := HS.out.small; have := L1.out; omega
    have HT : Hid ((ar24 (ext r) (ext u)).take n = comm r u) := Lib.hid (by rw [ar24_ext HS.out, ← L1.out, ← HS.out.comm.2]; exact take_ext _ HS.out.comm.1.len)
    clear hq
    go_wp2_with (refine wpList_store_row rfl 63 _ _ rfl w1.heap.size (V (glv r u)).toArray rfl rfl 63 (V zero49).toArray (Arr.new w1 (V zero49) _ rfl) (size49 (glv_len _ _)) (by simp [V_len, glv_len, zero49]) (one_V _) ?_; generalize hw_ : (w1.alloc (.cells #[.int .i64 0, .int .i64 0, .int .i64 0, .int .i64 0, .int .i64 0, .int .i64 0, .int .i64 0, .int .i64 0, .int .i64 0, .int .i64 0, .int .i64 0, .int .i64 0, .int .i64 0, .int .i64 0, .int .i64 0, .int .i64 0, .int .i64 0, .int .i64 0, .int .i64 0, .int .i64 0, .int .i64 0, .int .i64 0, .int .i64 0, .int .i64 0, .int .i64 0, .int .i64 0, .int .i64 0, .int .i64 0, .int .i64 0, .int .i64 0, .int .i64 0, .int .i64 0, .int .i64 0, .int .i64 0, .int .i64 0, .int .i64 0, .int .i64 0, .int .i64 0, .int .i64 0, .int .i64 0, .int .i64 0, .int .i64 0, .int .i64 0, .int .i64 0, .int .i64 0, .int .i64 0, .int .i64 0, .int .i64 0, .int .i64 0] 63)).setRow w1.heap.size (V (glv r u)).toArray = w2; have A2 : Hid (Arr w2 w1.heap.size (V (glv r u)) 63) := Lib.hid (by rw [← hw_]; exact (Arr.new w1 (V zero49) _ rfl).row); have b1 : Below w1.heap.size w1 w2 := (by rw [← hw_]; exact arr.below_setRow ((Below.refl _ _).alloc (Nat.le_refl _) _) (Nat.le_refl _) _); have t_ : w1.heap.size + 1 ≤ w2.heap.size := (by rw [← hw_]; simp); clear hw_; replace B1 := Lib.hid (B1.out.trans (b1.mono B1.out.size)); clear b1)
    rw [HG.out] at A2
    refine wp_region_held_drew (S := Hld w2.heap.size w2.heap.size w2 [(w1.heap.size, V (gl (ext r) (ext u) n))]) (by kernel_rfl) (Hld.start1 A2.out) (fun hHeld => ?_)
    have B2 := Lib.hid (B1.out.trans (hHeld.below.mono B1.out.size))
    generalize w2.drew = w3 at *
    clear A2 B1
    refine wpAnyH_take (i := 0) (v := .agg (V (gl (ext r) (ext u) n)).toArray) rfl (by kernel_rfl) (by kernel_rfl) (by kernel_rfl) (fun _ _ _ h => h) (yieldsIf_load_mid (by rfl) _ _ rfl w1.heap.size 0 rfl (V (gl (ext r) (ext u) n)) _ (fun w h => h.fst) Try.underlying63 rfl (hi49 (gl_len (ext_len _) (ext_len _) _))) hHeld ?_
    refine wpAnyH_take (i := 2) (v := .pointer (some ⟨w1.heap.size, 48, none⟩)) rfl (by kernel_rfl) (by kernel_rfl) (by kernel_rfl) (fun _ _ _ h => h) (Or.inl ⟨by rfl, fun w hSw => by go_simp⟩) hHeld ?_
    refine wpAnyH_take (i := 3) (v := .int .i64 n) rfl (by kernel_rfl) (by kernel_rfl) (by kernel_rfl) (fun _ _ _ h => h) (Or.inl ⟨by rfl, fun w hSw => by have := rg_count (ext_len r) (ext_len u) hSw.fst; go_simp⟩) hHeld ?_
    refine wpAnyH_ready (rs := [1]) (by kernel_rfl) (by simp) (AllReadyH.cons rfl (fun K hK => ?_) AllReadyH.nil)
    go_simp
    refine (around_any (ext r) (ext u) n _ HS.out.r.sq HS.out.u.sq).mono ?_
    rintro e w4 ⟨rfl, b1⟩
    replace B2 := Lib.hid (B2.out.trans (b1.mono B2.out.size))
    go_wp2_with fail
    have hHeld2 := hHeld.later b1 (Nat.le_refl _); clear b1 hHeld
    refine hK.out _ _ hHeld2 (fun hHeld => ?_)
    clear hK K hHeld2
    refine wpAnyH_ready (rs := [4]) (by kernel_rfl) (by simp) (AllReadyH.cons rfl (fun K hK => ?_) AllReadyH.nil)
    go_simp
    refine (list_gives (ar24 (ext r) (ext u)) n _ (ar24_len _ _) hn24).mono ?_
    rintro e w5 hg
    have hg2 := hg
    rw [HT.out] at hg2
    obtain ⟨v, rfl, ho, hb⟩ := gives_later B2.out hg2
    obtain ⟨v', hv', ho', b1⟩ := hg
    obtain rfl : v = v' := by injection hv'
    have HOW := Lib.hid ho; have HB := Lib.hid hb; clear ho hb ho' hg2 hv'
    go_wp2_with fail
    have hHeld2 := hHeld.later b1 (Nat.le_refl _); clear b1 hHeld
    refine hK.out _ _ hHeld2 (fun hHeld => ?_)
    clear hK K hHeld2
    refine wpAnyH_ready (rs := [5]) (by kernel_rfl) (by simp) (AllReadyH.cons rfl (fun K hK => ?_) AllReadyH.nil)
    go_simp
    refine hK.out _ _ hHeld (fun hHeld2 => ?_)
    clear hK K hHeld2
    refine wpAnyH_done (by kernel_rfl) ?_ _
    go_wp2_with fail
    go_ret
    exact gives_eqi HF.out ⟨v, rfl, HOW.out, HB.out⟩

theorem ar_impl (v : Value) (r u : List Int) (hi : Nat) (w : World) (hx : Srd w hi v r u) (hn : r.length ≤ 1048576) (hm : u.length ≤ 1048576) :
    Calls Try.prog 19 #[v] w fun e w' => ∃ v, e = .returned v ∧ w'.ownsRow w.heap.size 3 1 v (arF r u).length (V (arF r u)) ∧ Below w.heap.size w w' :=
  ar_impl0 v r u hi w hx hn hm
end Go.Proofs.Ytpafloeghbfdgaa.gl
