/-
  Contracts of the model's GenusOf and IsRegularCorner.
-/
import Derived.Test.YtpafloeghbfdgaaAs
import Derived.IntWalk
namespace Go.Proofs.Ytpafloeghbfdgaa.gl
open Go.ChangeShapes Go.WideShapes Go.ChangeAt Go.RowKit
open Go.Proofs.Ytpafloeghbfdgaa.mem Go.Proofs.Ytpafloeghbfdgaa.ints Go.Proofs.Ytpafloeghbfdgaa.arr Go.Proofs.Ytpafloeghbfdgaa.pm Go.Proofs.Ytpafloeghbfdgaa.permOk Go.Proofs.Ytpafloeghbfdgaa.permOf Go.Proofs.Ytpafloeghbfdgaa.inv Go.Proofs.Ytpafloeghbfdgaa.fns Go.Proofs.Ytpafloeghbfdgaa.sf Go.Proofs.Ytpafloeghbfdgaa.mat
set_option linter.unusedVariables false
set_option maxRecDepth 100000

theorem corF_le (r u : List Int) : (corF r u).length ≤ r.length := by
  cases h : transB r u with
  | false => rw [corF_no h]; simp
  | true =>
    have s := transB_iff.1 h
    rw [corF_yes h]
    exact (cso_cs s.commB r.length (Nat.le_refl _)).len
theorem genF_yes {r u : List Int} (h : transB r u = true) {n : Nat} (hn : r.length = n) : genF r u = 1 + ((n : Int) - ((corF r u).length : Int)) / 2 := by subst hn; simp [genF, h]
theorem genF_no {r u : List Int} (h : transB r u = false) : genF r u = -1 := by simp [genF, h]
theorem wrap_in {a : Int} (h1 : -100 ≤ a) (h2 : a ≤ 100) : IntKind.i64.wrap a = a := IntWalk.i64_in _ (by omega)

set_option maxHeartbeats 4000000 in
theorem ge_spec (v : Value) (r u : List Int) (hi : Nat) (w : World) (hx : Srd w hi v r u) (hn : r.length ≤ 1048576) (hm : u.length ≤ 1048576) :
    Calls Try.prog 36 #[v] w fun e w' => e = .returned (.int .i64 (genF r u)) ∧ Below w.heap.size w w' := by
  have HX := Lib.hid hx; clear hx
  obtain ⟨P, n, c, Q, m, d, rfl, q1, q2, e1, e2, ht, HR⟩ := HX.out.open
  go_enter Try.func36, Try.ntmps36
  go_wp2_with fail
  refine (ok_spec _ r u hi _ (HX.out.keep ((Below.refl hi w).alloc ht _) (Nat.le_refl _)) hn hm).mono ?_
  rintro e w1 ⟨rfl, b1⟩
  have A0 := Lib.hid ((Arr.new w [.slice P n c, .slice Q m d] 25 rfl).keep b1 (by simp))
  have c0 := A0.out.cell (k := 0) rfl
  have c1 := A0.out.cell (k := 1) rfl
  have B1 := Lib.hid (below1 _ _ b1); clear b1
  have X1 : Hid (Srd w1 hi (.agg #[.slice P n c, .slice Q m d]) r u) := Lib.hid (HX.out.keep (B1.out.mono ht) (Nat.le_refl _))
  cases hq : transB r u
  · have HF := Lib.hid (genF_no hq); clear hq
    go_wp2_with fail
    go_ret
    exact ⟨ret_int HF.out.symm, B1.out⟩
  · have HF := Lib.hid (genF_yes hq q1)
    have hkn : (corF r u).length ≤ n := by rw [← q1]; exact corF_le r u
    have hk24 : n ≤ 24 := by have := (transB_iff.1 hq).small; omega
    clear hq
    go_wp2_with fail
    refine wp_region_held_drew (S := Hld w1.heap.size w1.heap.size w1 [(w.heap.size, [.slice P n c, .slice Q m d])]) (by kernel_rfl) (Hld.start1 A0.out) (fun hHeld => ?_)
    have b1 : Below w1.heap.size w1 w1.drew := ⟨rfl, rfl, rfl, Nat.le_refl _, fun _ _ => rfl⟩
    generalize w1.drew = w2 at *
    replace X1 := Lib.hid (X1.out.keep b1 X1.out.top); replace B1 := Lib.hid (B1.out.trans (b1.mono B1.out.size)); clear b1 A0 c0 c1
    refine wpAnyH_take (i := 0) (v := .pointer (some ⟨w.heap.size, 0, none⟩)) rfl (by kernel_rfl) (by kernel_rfl) (by kernel_rfl) (fun _ _ _ h => h) (Or.inl ⟨by rfl, fun w hSw => by go_simp⟩) hHeld ?_
    refine wpAnyH_take (i := 1) (v := .slice P n c) rfl (by kernel_rfl) (by kernel_rfl) (by kernel_rfl) (fun _ _ _ h => h) (Or.inl ⟨by rfl, fun w hSw => by have := hSw.c0; go_simp⟩) hHeld ?_
    refine wpAnyH_take (i := 2) (v := .int .i64 n) rfl (by kernel_rfl) (by kernel_rfl) (by kernel_rfl) (fun _ _ _ h => h) (Or.inl ⟨by rfl, fun w hSw => by go_simp⟩) hHeld ?_
    refine wpAnyH_take (i := 3) (v := .agg #[.slice P n c, .slice Q m d]) rfl (by kernel_rfl) (by kernel_rfl) (by kernel_rfl) (fun _ _ _ h => h) (yieldsIf_load_mid (by rfl) _ _ rfl w.heap.size 0 rfl [.slice P n c, .slice Q m d] _ (fun w h => h.fst) Try.underlying25 rfl (sizeS _ _)) hHeld ?_
    refine wpAnyH_ready (rs := [4]) (by kernel_rfl) (by simp) (AllReadyH.cons rfl (fun K hK => ?_) AllReadyH.nil)
    go_simp
    refine (co_spec _ r u hi _ X1.out hn hm).mono ?_
    rintro e w3 ⟨P3, c3, rfl, o3, b1⟩
    replace B1 := Lib.hid (B1.out.trans (b1.mono B1.out.size))
    clear o3
    go_wp2_with fail
    have hHeld2 := hHeld.later b1 (Nat.le_refl _); clear b1 hHeld
    refine hK.out _ _ hHeld2 (fun hHeld => ?_)
    clear hK K hHeld2
    generalize (corF r u).length = k at *
    have hw1 : IntKind.i64.wrap ((n : Int) - (k : Int)) = (n : Int) - (k : Int) := wrap_in (by omega) (by omega)
    have hw2 : IntKind.i64.wrap (((n : Int) - (k : Int)).tdiv 2) = ((n : Int) - (k : Int)) / 2 := by rw [Int.tdiv_eq_ediv_of_nonneg (by omega)]; exact wrap_in (by omega) (by omega)
    have hw3 : IntKind.i64.wrap (1 + ((n : Int) - (k : Int)) / 2) = 1 + ((n : Int) - (k : Int)) / 2 := wrap_in (by omega) (by omega)
    refine wpAnyH_take (i := 5) (v := .int .i64 k) rfl (by kernel_rfl) (by kernel_rfl) (by kernel_rfl) (fun _ _ _ h => h) (Or.inl ⟨by rfl, fun w hSw => by go_simp⟩) hHeld ?_
    refine wpAnyH_take (i := 6) (v := .int .i64 ((n : Int) - (k : Int))) rfl (by kernel_rfl) (by kernel_rfl) (by kernel_rfl) (fun _ _ _ h => h) (Or.inl ⟨by rfl, fun w hSw => by go_simp⟩) hHeld ?_
    refine wpAnyH_take (i := 7) (v := .int .i64 (((n : Int) - (k : Int)) / 2)) rfl (by kernel_rfl) (by kernel_rfl) (by kernel_rfl) (fun _ _ _ h => h) (Or.inl ⟨by rfl, fun w hSw => by go_simp⟩) hHeld ?_
    refine wpAnyH_take (i := 8) (v := .int .i64 (1 + ((n : Int) - (k : Int)) / 2)) rfl (by kernel_rfl) (by kernel_rfl) (by kernel_rfl) (fun _ _ _ h => h) (Or.inl ⟨by rfl, fun w hSw => by go_simp⟩) hHeld ?_
    refine wpAnyH_ready (rs := [9]) (by kernel_rfl) (by simp) (AllReadyH.cons rfl (fun K hK => ?_) AllReadyH.nil)
    go_simp
    refine hK.out _ _ hHeld (fun hHeld2 => ?_)
    clear hK K hHeld hHeld2
    refine wpAnyH_done (by kernel_rfl) ?_ _
    go_wp2_with fail
    go_ret
    exact ⟨ret_int HF.out.symm, B1.out⟩

theorem regF_not {r u : List Int} (h : transB r u = false) (a : Int) : regF r u a = false := by simp [regF, h]
theorem regF_neg {r u : List Int} {a : Int} (h : a < 0) : regF r u a = false := by
  have : decide (0 ≤ a) = false := by simp; omega
  simp [regF, this]
theorem regF_big {r u : List Int} {a : Int} (h : (r.length : Int) ≤ a) : regF r u a = false := by
  have : decide (a < (r.length : Int)) = false := by simp; omega
  simp [regF, this]
theorem regF_in {r u : List Int} (h : transB r u = true) {f : Nat} (hf : f < r.length) {z : Int} (hz : (comm r u).getD f 0 = z) : regF r u (f : Int) = (z == (f : Int)) := by
  subst hz
  have h1 : decide (0 ≤ (f : Int)) = true := by simp
  have h2 : decide ((f : Int) < (r.length : Int)) = true := by simp; omega
  unfold regF
  rw [h, h1, h2, Int.toNat_natCast, Bool.eq_iff_iff]
  simp
set_option maxHeartbeats 4000000 in
theorem re_spec (v : Value) (r u : List Int) (a : Int) (hi : Nat) (w : World) (hx : Srd w hi v r u) (hn : r.length ≤ 1048576) (hm : u.length ≤ 1048576) (lo : -9223372036854775808 ≤ a) (hi' : a ≤ 9223372036854775807) :
    Calls Try.prog 37 #[v, .int .i64 a] w fun e w' => e = .returned (.bool (regF r u a)) ∧ Below w.heap.size w w' := by
  have HX := Lib.hid hx; clear hx
  obtain ⟨P, n, c, Q, m, d, rfl, q1, q2, e1, e2, ht, HR⟩ := HX.out.open
  go_enter Try.func37, Try.ntmps37
  go_wp2_with fail
  refine (ok_spec _ r u hi _ (HX.out.keep ((Below.refl hi w).alloc ht _) (Nat.le_refl _)) hn hm).mono ?_
  rintro e w1 ⟨rfl, b1⟩
  have A0 := Lib.hid ((Arr.new w [.slice P n c, .slice Q m d] 25 rfl).keep b1 (by simp))
  have c0 := A0.out.cell (k := 0) rfl
  have c1 := A0.out.cell (k := 1) rfl
  have B1 := Lib.hid (below1 _ _ b1); clear b1
  have X1 : Hid (Srd w1 hi (.agg #[.slice P n c, .slice Q m d]) r u) := Lib.hid (HX.out.keep (B1.out.mono ht) (Nat.le_refl _))
  cases hq : transB r u
  · have HF := Lib.hid (regF_not hq a); clear hq
    go_wp2_with fail
    go_ret
    exact ⟨ret_bool HF.out.symm, B1.out⟩
  · by_cases ha : a < 0
    · have HF := Lib.hid (regF_neg (r := r) (u := u) ha)
      have hd : decide (0 ≤ a) = false := by simp; omega
      clear hq ha
      go_wp2_with fail
      go_ret
      exact ⟨ret_bool HF.out.symm, B1.out⟩
    · have hd : decide (0 ≤ a) = true := by simp; omega
      by_cases hb : (n : Int) ≤ a
      · have HF := Lib.hid (regF_big (r := r) (u := u) (a := a) (by rw [q1]; exact hb))
        have hd2 : decide (a < (n : Int)) = false := by simp; omega
        clear hq ha hb
        go_wp2_with fail
        go_ret
        exact ⟨ret_bool HF.out.symm, B1.out⟩
      · obtain ⟨f, rfl⟩ := Int.eq_ofNat_of_zero_le (show 0 ≤ a by omega)
        have hf : f < n := by omega
        have HS := Lib.hid (transB_iff.1 hq)
        have HF := Lib.hid (fun z hz => regF_in hq (f := f) (z := z) (by rw [q1]; exact hf) hz)
        have hlc : (comm r u).length = r.length := HS.out.comm.2
        have hz1 : f < (comm r u).length := by omega
        have hz2 : (comm r u).length ≤ 1048576 := by omega
        clear hq ha hb hd hlc
        go_wp2_with fail
        refine (around_spec _ r u hi _ X1.out HS.out).mono ?_
        rintro e w2 hg
        obtain ⟨v2, rfl, o2, b2⟩ := gives_later B1.out hg
        obtain ⟨P2, c2, rfl⟩ := own_form o2
        obtain ⟨g, off, uu, rfl, _, _, hxu, hcx, _⟩ := (Row.of_own o2).at_ hz1
        obtain ⟨z, hzs, rfl⟩ := V_at hxu
        have HZ := Lib.hid (HF.out z (by simp [List.getD, hzs]))
        have B2 := Lib.hid b2
        clear b2 hg o2 hxu hzs
        generalize (comm r u).length = L at *
        generalize hqq : (z == (f : Int)) = q at *
        go_wp2_with fail
        go_ret
        exact ⟨ret_bool HZ.out.symm, B2.out⟩

end Go.Proofs.Ytpafloeghbfdgaa.gl
