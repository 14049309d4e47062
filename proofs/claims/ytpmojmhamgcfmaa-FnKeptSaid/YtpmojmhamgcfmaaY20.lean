import Derived.Test.YtpmojmhamgcfmaaY12
import Derived.Test.YtpmojmhamgcfmaaY16
import Derived.Test.YtpmojmhamgcfmaaY19
import Derived.Test.YtpmojmhamgcfmaaY13
import Derived.Test.YtpmojmhamgcfmaaY09
/-
  IsTurn: contracts of the program's isTurn, turnOf and IsTurn.
-/
namespace Go.Proofs.Ytpmojmhamgcfmaa.ht
open Go.ChangeShapes Go.WideShapes Go.ChangeAt Go.RowKit
open Go.Proofs.Ytpmojmhamgcfmaa.mem Go.Proofs.Ytpmojmhamgcfmaa.ints Go.Proofs.Ytpmojmhamgcfmaa.arr Go.Proofs.Ytpmojmhamgcfmaa.pm Go.Proofs.Ytpmojmhamgcfmaa.permOk Go.Proofs.Ytpmojmhamgcfmaa.permOf Go.Proofs.Ytpmojmhamgcfmaa.inv Go.Proofs.Ytpmojmhamgcfmaa.fns Go.Proofs.Ytpmojmhamgcfmaa.sf Go.Proofs.Ytpmojmhamgcfmaa.gl Go.Proofs.Ytpmojmhamgcfmaa.mat Go.Proofs.Ytpmojmhamgcfmaa.la
set_option linter.unusedVariables false
set_option maxRecDepth 100000

theorem eq_ht {r u a : List Int} {n : Nat} (s : Sf n r u) (o : Ok a) (la : a.length = n) (w : World) :
    (Op.equalIn 10000 63 (.agg (V (gl (ext (renTo n r a n)) (ext (renTo n u a n)) n)).toArray) (.agg (V (gl (ext (Inv r)) (ext (Inv u)) n)).toArray)).run Try.prog w = .ok (htB r u a) w := by
  rw [eq_gl2 (ext_len _) (ext_len _) (ext_len _) (ext_len _)]
  congr 1
  have h24 : n ≤ 24 := by have := s.r.len; rw [s.lr] at this; exact this
  rw [Bool.eq_iff_iff, decide_eq_true_eq, htB_iff o la, ← ren_iff s o la]
  constructor
  · rintro ⟨q1, q2, _⟩
    exact ⟨ext_inj (by rw [renTo_len, Inv_len, s.lr]) (by rw [renTo_len]; exact h24) q1, ext_inj (by rw [renTo_len, Inv_len, s.lu]) (by rw [renTo_len]; exact h24) q2⟩
  · rintro ⟨q1, q2⟩
    exact ⟨by rw [q1], by rw [q2], rfl⟩
theorem rn_two (r u : List Int) : la.runN [2, 2] (r, u) = (Inv r, Inv u) := by simp [la.runN, letN, turnS]
theorem rd_two (w : World) (y z : Int) (g : Nat) (hg : w.heap.size = g) : Rd (w.alloc (.cells #[.int .i64 y, .int .i64 z] 73)) (g + 1) (some ⟨g, 0, none⟩) 2 (V [y, z]) := by
  subst hg
  have := Rd.of_cells (w := w.alloc (.cells #[.int .i64 y, .int .i64 z] 73)) (a := ⟨w.heap.size, 0, none⟩) (n := 2) (xs := V [y, z]) rfl (fun i hi => by
    match i, hi with
    | 0, _ => exact (Arr.new w (V [y, z]) 73 rfl).cell rfl
    | 1, _ => exact (Arr.new w (V [y, z]) 73 rfl).cell rfl)
  simpa using this
theorem step_eql_gl {ops : Array Oper} {o : Oper} {a : Act} {w : World} {K : Act → World → Prop} {Q : Exit → Act → World → Prop} {E : Prop} (hgd : o.guard = none) (x y : Operand) (rt : TypeId) (ho : o.op = .binOp .eql 63 x y rt)
    (xs ys : Array Value) (hx : a.eval x = .agg xs) (hy : a.eval y = .agg ys) (b : Bool) (he : (Op.equalIn 10000 63 (.agg xs) (.agg ys)).run Try.prog w = .ok b w)
    (h : K (a.put o.dst (.bool b)) w) : if Region.wanted o (yielded ops a.tmps) = true then Oper.wp Try.prog o a w K Q else E := by
  have hw : Region.wanted o (yielded ops a.tmps) = true := by simp [Region.wanted, hgd]
  rw [if_pos hw]
  unfold Oper.wp execOp
  simp only [ho, hx, hy, Sem.run_bind, run_eqGuard_agg w .eql _ x y xs ys (show Try.prog.eqGuardType Try.prog.depth 63 = false by kernel_rfl), Result.andThen_ok, run_eql_struct, he, Sem.run_pure]
  exact h
set_option maxHeartbeats 4000000 in
theorem isTurn_any (r u a : List Int) (n : Nat) (w : World) (hs : Sf n r u) (o : Ok a) (la : a.length = n) :
    Calls Try.prog 49 #[.agg (V (gl (ext r) (ext u) n)).toArray, .agg (V (ext a)).toArray] w fun e w' => e = .returned (.bool (htB r u a)) ∧ Below w.heap.size w w' := by
  have HS := Lib.hid hs
  have RS := Lib.hid hs.r.sq; have US := Lib.hid hs.u.sq; have AS := Lib.hid o.sq
  have E1 : Hid (ren24 (ext r) (ext a) = ext (renTo n r a n)) := Lib.hid (ren24_ext hs.r o hs.lr la)
  have E2 : Hid (ren24 (ext u) (ext a) = ext (renTo n u a n)) := Lib.hid (ren24_ext hs.u o hs.lu la)
  have EQ := Lib.hid (eq_ht hs o la)
  clear hs o
  go_enter Try.func49, Try.ntmps49
  go_wp2_with fail
  generalize hw1 : (w.alloc (.cells (V (gl (ext r) (ext u) n)).toArray 63)).alloc (.cells (V (ext a)).toArray 61) = w1
  have A0 : Hid (Arr w1 w.heap.size (V (gl (ext r) (ext u) n)) 63) := Lib.hid (by rw [← hw1]; exact (Arr.new w _ _ rfl).alloc _)
  have A1 : Hid (Arr w1 (w.heap.size + 1) (V (ext a)) 61) := Lib.hid (by rw [← hw1]; exact Arr.new _ (V (ext a)) _ (by simp))
  have B1 : Hid (Below w.heap.size w w1) := Lib.hid (by rw [← hw1]; exact ((Below.refl _ _).alloc (Nat.le_refl _) _).alloc (by simp) _)
  have s1 : w1.heap.size = w.heap.size + 2 := by rw [← hw1]; simp
  clear hw1
  refine wp_region_held_drew (S := Hld w.heap.size w1.heap.size w1 [(w.heap.size, V (gl (ext r) (ext u) n)), (w.heap.size + 1, V (ext a))]) (by kernel_rfl) ((Hld.start2 A0.out A1.out).lower (by omega)) (fun hHeld => ?_)
  have b1 : Below w1.heap.size w1 w1.drew := ⟨rfl, rfl, rfl, Nat.le_refl _, fun _ _ => rfl⟩
  generalize w1.drew = w2 at *
  have s2 := b1.size
  replace B1 := Lib.hid (B1.out.trans (b1.mono B1.out.size))
  clear b1 A0 A1
  refine wpAnyH_take (i := 0) (v := .agg (V (gl (ext r) (ext u) n)).toArray) rfl (by kernel_rfl) (by kernel_rfl) (by kernel_rfl) (fun _ _ _ h => h) (yieldsIf_load_mid (by rfl) _ _ rfl w.heap.size 0 rfl (V (gl (ext r) (ext u) n)) _ (fun w h => h.fst) Try.underlying63 rfl (hi49 (gl_len (ext_len _) (ext_len _) _))) hHeld ?_
  refine wpAnyH_take (i := 3) (v := .agg (V (gl (ext r) (ext u) n)).toArray) rfl (by kernel_rfl) (by kernel_rfl) (by kernel_rfl) (fun _ _ _ h => h) (yieldsIf_load_mid (by rfl) _ _ rfl w.heap.size 0 rfl (V (gl (ext r) (ext u) n)) _ (fun w h => h.fst) Try.underlying63 rfl (hi49 (gl_len (ext_len _) (ext_len _) _))) hHeld ?_
  refine wpAnyH_take (i := 1) (v := .agg (V (ext a)).toArray) rfl (by kernel_rfl) (by kernel_rfl) (by kernel_rfl) (fun _ _ _ h => h) (yieldsIf_load_mid (by rfl) _ _ rfl (w.heap.size + 1) 0 rfl (V (ext a)) _ (fun w h => h.snd) Try.underlying61 rfl (hi24 (ext_len _))) hHeld ?_
  refine wpAnyH_ready (rs := [2, 4]) (by kernel_rfl) (by simp) (AllReadyH.cons rfl (fun K hK => ?_) (AllReadyH.cons rfl (fun K hK => ?_) AllReadyH.nil))
  · go_simp
    refine (renamed_any (ext r) (ext u) (ext a) n _ RS.out US.out AS.out).mono ?_
    rintro e w3 ⟨rfl, b1⟩
    rw [E1.out, E2.out]
    have s3 := b1.size
    replace B1 := Lib.hid (B1.out.trans (b1.mono B1.out.size))
    go_wp2_with fail
    have hHeld2 := hHeld.later b1 (by omega); clear b1 hHeld
    refine hK.out _ _ hHeld2 (fun hHeld => ?_)
    clear hK K hHeld2
    refine wpAnyH_ready (rs := [4]) (by kernel_rfl) (by simp) (AllReadyH.cons rfl (fun K hK => ?_) AllReadyH.nil)
    go_simp
    have RD := Lib.hid (rd_two w3 2 2 w3.heap.size rfl)
    have b1 : Below w3.heap.size w3 (w3.alloc (.cells #[.int .i64 2, .int .i64 2] 73)) := (Below.refl _ _).alloc (Nat.le_refl _) _
    have t_ : (w3.alloc (.cells #[.int .i64 2, .int .i64 2] 73)).heap.size = w3.heap.size + 1 := by simp
    replace B1 := Lib.hid (B1.out.trans (b1.mono B1.out.size))
    generalize w3.alloc (.cells #[.int .i64 2, .int .i64 2] 73) = w4 at *
    have hHeld2 := hHeld.later b1 (by omega); clear b1 hHeld
    refine hK.out _ _ hHeld2 (fun hHeld => ?_)
    clear hK K hHeld2
    refine wpAnyH_ready (rs := [5]) (by kernel_rfl) (by simp) (AllReadyH.cons rfl (fun K hK => ?_) AllReadyH.nil)
    go_simp
    refine (after_any r u n _ 2 2 [2, 2] (w3.heap.size + 1) _ RD.out (by omega) (by simp) HS.out (by omega)).mono ?_
    rintro e w5 ⟨rfl, b1⟩
    rw [rn_two]
    replace B1 := Lib.hid (B1.out.trans (b1.mono B1.out.size))
    clear RD
    go_wp2_with fail
    have hHeld2 := hHeld.later b1 (by omega); clear b1 hHeld
    refine hK.out _ _ hHeld2 (fun hHeld => ?_)
    clear hK K hHeld2
    refine wpAnyH_ready (rs := [6]) (by kernel_rfl) (by simp) (AllReadyH.cons rfl (fun K hK => ?_) AllReadyH.nil)
    refine step_eql_gl rfl _ _ _ rfl _ _ rfl rfl _ (EQ.out _) ?_
    refine hK.out _ _ hHeld (fun hHeld2 => ?_)
    clear hK K hHeld2
    refine wpAnyH_ready (rs := [7]) (by kernel_rfl) (by simp) (AllReadyH.cons rfl (fun K hK => ?_) AllReadyH.nil)
    go_simp
    refine hK.out _ _ hHeld (fun hHeld2 => ?_)
    clear hK K hHeld2
    refine wpAnyH_done (by kernel_rfl) ?_ _
    go_wp2_with fail
    go_ret
    exact ⟨rfl, B1.out⟩
  · go_simp
    have RD := Lib.hid (rd_two w2 2 2 w2.heap.size rfl)
    have b1 : Below w2.heap.size w2 (w2.alloc (.cells #[.int .i64 2, .int .i64 2] 73)) := (Below.refl _ _).alloc (Nat.le_refl _) _
    have t_ : (w2.alloc (.cells #[.int .i64 2, .int .i64 2] 73)).heap.size = w2.heap.size + 1 := by simp
    replace B1 := Lib.hid (B1.out.trans (b1.mono B1.out.size))
    generalize w2.alloc (.cells #[.int .i64 2, .int .i64 2] 73) = w4 at *
    have hHeld2 := hHeld.later b1 (by omega); clear b1 hHeld
    refine hK.out _ _ hHeld2 (fun hHeld => ?_)
    clear hK K hHeld2
    refine wpAnyH_ready (rs := [2]) (by kernel_rfl) (by simp) (AllReadyH.cons rfl (fun K hK => ?_) AllReadyH.nil)
    go_simp
    refine (renamed_any (ext r) (ext u) (ext a) n _ RS.out US.out AS.out).mono ?_
    rintro e w3 ⟨rfl, b1⟩
    rw [E1.out, E2.out]
    have s3 := b1.size
    replace B1 := Lib.hid (B1.out.trans (b1.mono B1.out.size))
    replace RD := Lib.hid (RD.out.keep b1 (by omega))
    go_wp2_with fail
    have hHeld2 := hHeld.later b1 (by omega); clear b1 hHeld
    refine hK.out _ _ hHeld2 (fun hHeld => ?_)
    clear hK K hHeld2
    refine wpAnyH_ready (rs := [5]) (by kernel_rfl) (by simp) (AllReadyH.cons rfl (fun K hK => ?_) AllReadyH.nil)
    go_simp
    refine (after_any r u n _ 2 2 [2, 2] (w2.heap.size + 1) _ RD.out (by omega) (by simp) HS.out (by omega)).mono ?_
    rintro e w5 ⟨rfl, b1⟩
    rw [rn_two]
    replace B1 := Lib.hid (B1.out.trans (b1.mono B1.out.size))
    clear RD
    go_wp2_with fail
    have hHeld2 := hHeld.later b1 (by omega); clear b1 hHeld
    refine hK.out _ _ hHeld2 (fun hHeld => ?_)
    clear hK K hHeld2
    refine wpAnyH_ready (rs := [6]) (by kernel_rfl) (by simp) (AllReadyH.cons rfl (fun K hK => ?_) AllReadyH.nil)
    refine step_eql_gl rfl _ _ _ rfl _ _ rfl rfl _ (EQ.out _) ?_
    refine hK.out _ _ hHeld (fun hHeld2 => ?_)
    clear hK K hHeld2
    refine wpAnyH_ready (rs := [7]) (by kernel_rfl) (by simp) (AllReadyH.cons rfl (fun K hK => ?_) AllReadyH.nil)
    go_simp
    refine hK.out _ _ hHeld (fun hHeld2 => ?_)
    clear hK K hHeld2
    refine wpAnyH_done (by kernel_rfl) ?_ _
    go_wp2_with fail
    go_ret
    exact ⟨rfl, B1.out⟩
/-- The program's half turn of lists: what turnOf answers. -/
def ToPost (r u xs : List Int) (w : World) (e : Ending) (w' : World) : Prop :=
  (itB r u xs = true → e = .returned (.tuple #[.agg (V (gl (ext r) (ext u) r.length)).toArray, .agg (V (ext xs)).toArray, .bool true])) ∧ (itB r u xs = false → e = .returned (.tuple #[.agg (V zero49).toArray, .agg (V zeros).toArray, .bool false])) ∧ Below w.heap.size w w'
theorem built_zeroP : Try.prog.built 61 [] = some (V zeros).toArray := by kernel_rfl
theorem results_cells_tmp {P : Program} {fn : Func} {p p2 q : Tmp} {ty ty2 : TypeId} (h : fn.results = #[.cell p ty, .cell p2 ty2, .tmp q]) (tmps : Array Value) (w : World) (g g2 : Nat) (t t2 : TypeId) (cs cs2 : Array Value) (fr : Nat × Nat) (d d2 : TypeDesc) (v : Value)
    (hp : tmps.getD p undef = .pointer (some ⟨g, 0, none⟩)) (hp2 : tmps.getD p2 undef = .pointer (some ⟨g2, 0, none⟩)) (hq : tmps.getD q undef = v) (hg : w.heap[g]? = some (.cells cs t fr)) (hg2 : w.heap[g2]? = some (.cells cs2 t2 fr))
    (hu : P.underlying ty = some d) (hd : (match d with | .struct _ | .array _ _ => true | _ => false) = true) (hi : (P.info? ty).map (·.size) = some cs.size)
    (hu2 : P.underlying ty2 = some d2) (hd2 : (match d2 with | .struct _ | .array _ _ => true | _ => false) = true) (hi2 : (P.info? ty2).map (·.size) = some cs2.size) :
    (results fn tmps).run P w = .ok (.tuple #[.agg cs, .agg cs2, v]) w := by
  have hp' : tmps[p]?.getD undef = .pointer (some ⟨g, 0, none⟩) := by simpa using hp
  have hp2' : tmps[p2]?.getD undef = .pointer (some ⟨g2, 0, none⟩) := by simpa using hp2
  have hq' : tmps[q]?.getD undef = v := by simpa using hq
  simp [results, h, hp', hp2', hq', asAddr, run_loadVar_row w g t ty cs fr d hg hu hd hi, run_loadVar_row w g2 t2 ty2 cs2 fr d2 hg2 hu2 hd2 hi2]
set_option maxHeartbeats 4000000 in
theorem turnOf_any (v : Value) (r u : List Int) (A : Option Addr) (a ca : Nat) (xs : List Int) (hi h2 : Nat) (w : World) (hx : Srd w hi v r u) (hy : Rd w h2 A a (V xs)) (hn : r.length ≤ 1048576) (hm : u.length ≤ 1048576) (hna : a ≤ 1048576) :
    Calls Try.prog 55 #[v, .slice A a ca] w (ToPost r u xs w) := by
  have la : xs.length = a := by simpa [V] using hy.1
  have HX := Lib.hid hx; have HY := Lib.hid hy
  obtain ⟨P, n, c, Q, m, d, rfl, q1, q2, e1, e2, ht, HR⟩ := hx.open
  have h2' := hy.2.1
  have Q1 := Lib.hid q1; have LA := Lib.hid la
  clear hx hy HR q1 la
  go_enter Try.func55, Try.ntmps55
  go_wp2_with fail
  generalize hw1 : ((w.alloc (.cells #[.slice P n c, .slice Q m d] 25)).alloc (.cells #[.int .i64 0, .int .i64 0, .int .i64 0, .int .i64 0, .int .i64 0, .int .i64 0, .int .i64 0, .int .i64 0, .int .i64 0, .int .i64 0, .int .i64 0, .int .i64 0, .int .i64 0, .int .i64 0, .int .i64 0, .int .i64 0, .int .i64 0, .int .i64 0, .int .i64 0, .int .i64 0, .int .i64 0, .int .i64 0, .int .i64 0, .int .i64 0, .int .i64 0, .int .i64 0, .int .i64 0, .int .i64 0, .int .i64 0, .int .i64 0, .int .i64 0, .int .i64 0, .int .i64 0, .int .i64 0, .int .i64 0, .int .i64 0, .int .i64 0, .int .i64 0, .int .i64 0, .int .i64 0, .int .i64 0, .int .i64 0, .int .i64 0, .int .i64 0, .int .i64 0, .int .i64 0, .int .i64 0, .int .i64 0, .int .i64 0] 63)).alloc (.cells #[.int .i64 0, .int .i64 0, .int .i64 0, .int .i64 0, .int .i64 0, .int .i64 0, .int .i64 0, .int .i64 0, .int .i64 0, .int .i64 0, .int .i64 0, .int .i64 0, .int .i64 0, .int .i64 0, .int .i64 0, .int .i64 0, .int .i64 0, .int .i64 0, .int .i64 0, .int .i64 0, .int .i64 0, .int .i64 0, .int .i64 0, .int .i64 0] 61) = w1
  have A4 : Hid (Arr w1 (w.heap.size + 1) (V zero49) 63) := Lib.hid (by rw [← hw1]; exact (Arr.new _ (V zero49) _ (by simp)).alloc _)
  have A5 : Hid (Arr w1 (w.heap.size + 2) (V zeros) 61) := Lib.hid (by rw [← hw1]; exact Arr.new _ (V zeros) _ (by simp))
  have B1 : Hid (Below w.heap.size w w1) := Lib.hid (by rw [← hw1]; exact (((Below.refl _ _).alloc (Nat.le_refl _) _).alloc (by simp) _).alloc (by simp <;> omega) _)
  have s1 : w1.heap.size = w.heap.size + 3 := by rw [← hw1]; simp
  clear hw1
  refine (gluingOf_any _ r u hi _ (HX.out.keep (B1.out.mono ht) (Nat.le_refl _)) hn hm).mono ?_
  rintro e w2 ⟨rfl, b1⟩
  have s2 := b1.size
  replace A4 := Lib.hid (A4.out.keep b1 A4.out.lt)
  replace A5 := Lib.hid (A5.out.keep b1 A5.out.lt)
  replace B1 := Lib.hid (B1.out.trans (b1.mono B1.out.size))
  clear b1
  go_wp2_with (first | (refine wpList_store_row rfl 63 _ _ rfl w2.heap.size (V (glv r u)).toArray rfl rfl 63 (V zero49).toArray (Arr.new w2 (V zero49) _ rfl) (size49 (glv_len _ _)) (by simp [V_len, glv_len, zero49]) (one_V _) ?_; generalize hw_ : (w2.alloc (.cells #[.int .i64 0, .int .i64 0, .int .i64 0, .int .i64 0, .int .i64 0, .int .i64 0, .int .i64 0, .int .i64 0, .int .i64 0, .int .i64 0, .int .i64 0, .int .i64 0, .int .i64 0, .int .i64 0, .int .i64 0, .int .i64 0, .int .i64 0, .int .i64 0, .int .i64 0, .int .i64 0, .int .i64 0, .int .i64 0, .int .i64 0, .int .i64 0, .int .i64 0, .int .i64 0, .int .i64 0, .int .i64 0, .int .i64 0, .int .i64 0, .int .i64 0, .int .i64 0, .int .i64 0, .int .i64 0, .int .i64 0, .int .i64 0, .int .i64 0, .int .i64 0, .int .i64 0, .int .i64 0, .int .i64 0, .int .i64 0, .int .i64 0, .int .i64 0, .int .i64 0, .int .i64 0, .int .i64 0, .int .i64 0, .int .i64 0] 63)).setRow w2.heap.size (V (glv r u)).toArray = w3; have A7 : Hid (Arr w3 w2.heap.size (V (glv r u)) 63) := Lib.hid (by rw [← hw_]; exact (Arr.new w2 (V zero49) _ rfl).row); have b1 : Below w2.heap.size w2 w3 := (by rw [← hw_]; exact arr.below_setRow ((Below.refl _ _).alloc (Nat.le_refl _) _) (Nat.le_refl _) _); have t_w3 : w2.heap.size + 1 ≤ w3.heap.size := (by rw [← hw_]; simp); clear hw_; replace A4 := Lib.hid (A4.out.keep b1 A4.out.lt); replace A5 := Lib.hid (A5.out.keep b1 A5.out.lt); replace B1 := Lib.hid (B1.out.trans (b1.mono B1.out.size)); clear b1) | fail)
  refine (permOf_any A a ca xs h2 _ (HY.out.keep (B1.out.mono h2') (Nat.le_refl _)) hna).mono ?_
  rintro e w4 ⟨rfl, b1⟩
  have s4 := b1.size
  replace A4 := Lib.hid (A4.out.keep b1 A4.out.lt)
  replace A5 := Lib.hid (A5.out.keep b1 A5.out.lt)
  replace A7 := Lib.hid (A7.out.keep b1 A7.out.lt)
  replace B1 := Lib.hid (B1.out.trans (b1.mono B1.out.size))
  clear b1
  by_cases hq : transB r u = true
  · rw [hq]
    have HS : Hid (Sf n r u) := Lib.hid (by have := transB_iff.1 hq; rwa [Q1.out] at this)
    have HG : Hid (glv r u = gl (ext r) (ext u) n) := Lib.hid (by rw [glv_yes hq, Q1.out])
    rw [HG.out] at A7
    by_cases oy : okB xs = true
    · rw [oy]
      by_cases he : a = n
      · have HF := Lib.hid (it_yes hq oy (by rw [LA.out, Q1.out]; exact he))
        have HO := Lib.hid (Ok.of xs oy)
        have HP : Hid (pv xs = ext xs) := Lib.hid (by simp [pv, oy])
        subst he
        have hn24 : a ≤ 24 := by have := HS.out.r.len; rw [HS.out.lr] at this; exact this
        clear hq oy
        rw [HP.out]
        go_wp2_with (first | (refine wpList_store_row rfl 61 _ _ rfl w4.heap.size (V (ext xs)).toArray rfl rfl 61 (V zeros).toArray (Arr.new w4 (V zeros) _ rfl) (size_V (ext_len _)) (by simp [V_len, ext_len, zeros]) (one_V _) ?_; generalize hw_ : (w4.alloc (.cells #[.int .i64 0, .int .i64 0, .int .i64 0, .int .i64 0, .int .i64 0, .int .i64 0, .int .i64 0, .int .i64 0, .int .i64 0, .int .i64 0, .int .i64 0, .int .i64 0, .int .i64 0, .int .i64 0, .int .i64 0, .int .i64 0, .int .i64 0, .int .i64 0, .int .i64 0, .int .i64 0, .int .i64 0, .int .i64 0, .int .i64 0, .int .i64 0] 61)).setRow w4.heap.size (V (ext xs)).toArray = w5; have A9 : Hid (Arr w5 w4.heap.size (V (ext xs)) 61) := Lib.hid (by rw [← hw_]; exact (Arr.new w4 (V zeros) _ rfl).row); have b1 : Below w4.heap.size w4 w5 := (by rw [← hw_]; exact arr.below_setRow ((Below.refl _ _).alloc (Nat.le_refl _) _) (Nat.le_refl _) _); have t_w5 : w4.heap.size + 1 ≤ w5.heap.size := (by rw [← hw_]; simp); clear hw_; replace A4 := Lib.hid (A4.out.keep b1 A4.out.lt); replace A5 := Lib.hid (A5.out.keep b1 A5.out.lt); replace A7 := Lib.hid (A7.out.keep b1 A7.out.lt); replace B1 := Lib.hid (B1.out.trans (b1.mono B1.out.size)); clear b1; have hct := gl_count (ext_len r) (ext_len u) A7.out) | (refine wpList_load_row_g rfl 63 _ rfl w2.heap.size rfl 63 (V (gl (ext r) (ext u) a)).toArray (0, 0) _ A7.out Try.underlying63 rfl (size49 (gl_len (ext_len _) (ext_len _) _)) ?_) | (refine wpList_load_row_g rfl 61 _ rfl w4.heap.size rfl 61 (V (ext xs)).toArray (0, 0) _ A9.out Try.underlying61 rfl (size_V (ext_len _)) ?_) | fail)
        refine (isTurn_any r u xs a _ HS.out HO.out LA.out).mono ?_
        rintro e w6 ⟨rfl, b1⟩
        have s6 := b1.size
        replace A4 := Lib.hid (A4.out.keep b1 A4.out.lt)
        replace A5 := Lib.hid (A5.out.keep b1 A5.out.lt)
        replace A7 := Lib.hid (A7.out.keep b1 A7.out.lt)
        replace A9 := Lib.hid (A9.out.keep b1 A9.out.lt)
        replace B1 := Lib.hid (B1.out.trans (b1.mono B1.out.size))
        clear b1 hct
        rw [← HF.out]
        cases hb : itB r u xs
        · have HF := Lib.hid hb
          go_wp2_with (first | (refine wpList_build rfl 63 _ rfl [] rfl (V zero49).toArray built_zero ?_) | (refine wpList_build rfl 61 _ rfl [] rfl (V zeros).toArray built_zeroP ?_) | (refine wpList_store_row rfl 63 _ _ rfl (w.heap.size + 1) (V zero49).toArray rfl rfl 63 (V zero49).toArray A4.out (size49 zero49_len) rfl (one_V _) ?_) | (refine wpList_store_row rfl 61 _ _ rfl (w.heap.size + 2) (V zeros).toArray rfl rfl 61 (V zeros).toArray (A5.out.rowOther (by omega)) (size_V zeros_len) rfl (one_V _) ?_) | fail)
          exact bodyPost_ret (v := .tuple #[.agg (V zero49).toArray, .agg (V zeros).toArray, .bool false]) (results_cells_tmp rfl _ _ (w.heap.size + 1) (w.heap.size + 2) 63 61 (V zero49).toArray (V zeros).toArray (0, 0) _ _ _ rfl rfl rfl (Arr.rowOther A4.out.row (by omega)) (Arr.row (A5.out.rowOther (by omega))) Try.underlying63 rfl (size49 zero49_len) Try.underlying61 rfl (size_V zeros_len)) rfl ⟨fun q => absurd (HF.out.symm.trans q) (by decide), fun _ => rfl, below_setRow (below_setRow B1.out (by omega) _) (by omega) _⟩
        · have HF := Lib.hid hb
          go_wp2_with fail
          refine wp_region_held_drew (S := Hld w.heap.size w6.heap.size w6 [(w2.heap.size, V (gl (ext r) (ext u) a)), (w4.heap.size, V (ext xs))]) (by kernel_rfl) ((Hld.start2 A7.out A9.out).lower (by omega)) (fun hHeld => ?_)
          have b1 : Below w6.heap.size w6 w6.drew := ⟨rfl, rfl, rfl, Nat.le_refl _, fun _ _ => rfl⟩
          generalize w6.drew = w7 at *
          have s7 := b1.size
          replace A4 := Lib.hid (A4.out.keep b1 A4.out.lt)
          replace A5 := Lib.hid (A5.out.keep b1 A5.out.lt)
          replace B1 := Lib.hid (B1.out.trans (b1.mono B1.out.size))
          clear b1 A7 A9
          refine wpAnyH_take (i := 0) (v := .agg (V (gl (ext r) (ext u) a)).toArray) rfl (by kernel_rfl) (by kernel_rfl) (by kernel_rfl) (fun _ _ _ h => h) (yieldsIf_load_mid (by rfl) _ _ rfl w2.heap.size 0 rfl (V (gl (ext r) (ext u) a)) _ (fun w h => h.fst) Try.underlying63 rfl (hi49 (gl_len (ext_len _) (ext_len _) _))) hHeld ?_
          refine wpAnyH_take (i := 1) (v := .agg (V (ext xs)).toArray) rfl (by kernel_rfl) (by kernel_rfl) (by kernel_rfl) (fun _ _ _ h => h) (yieldsIf_load_mid (by rfl) _ _ rfl w4.heap.size 0 rfl (V (ext xs)) _ (fun w h => h.snd) Try.underlying61 rfl (hi24 (ext_len _))) hHeld ?_
          refine wpAnyH_ready (rs := [2]) (by kernel_rfl) (by simp) (AllReadyH.cons rfl (fun K hK => ?_) AllReadyH.nil)
          refine step_store_row rfl 63 _ _ rfl (w.heap.size + 1) (V (gl (ext r) (ext u) a)).toArray rfl rfl 63 (V zero49).toArray A4.out (size49 (gl_len (ext_len _) (ext_len _) _)) (by simp [V_len, gl_len, ext_len, zero49]) (one_V _) ?_
          refine hK.out _ _ (hHeld.other (by omega) (by simp; omega) _) (fun hHeld2 => ?_)
          clear hK K hHeld
          refine wpAnyH_ready (rs := [3]) (by kernel_rfl) (by simp) (AllReadyH.cons rfl (fun K hK => ?_) AllReadyH.nil)
          refine step_store_row rfl 61 _ _ rfl (w.heap.size + 2) (V (ext xs)).toArray rfl rfl 61 (V zeros).toArray (A5.out.rowOther (by omega)) (size_V (ext_len _)) (by simp [V_len, ext_len, zeros]) (one_V _) ?_
          refine hK.out _ _ (hHeld2.other (by omega) (by simp; omega) _) (fun hHeld => ?_)
          clear hK K hHeld2
          refine wpAnyH_ready (rs := [4]) (by kernel_rfl) (by simp) (AllReadyH.cons rfl (fun K hK => ?_) AllReadyH.nil)
          go_simp
          refine hK.out _ _ hHeld (fun hHeld2 => ?_)
          clear hK K hHeld2
          refine wpAnyH_done (by kernel_rfl) ?_ _
          go_wp2_with fail
          exact bodyPost_ret (v := .tuple #[.agg (V (gl (ext r) (ext u) a)).toArray, .agg (V (ext xs)).toArray, .bool true]) (results_cells_tmp rfl _ _ (w.heap.size + 1) (w.heap.size + 2) 63 61 (V (gl (ext r) (ext u) a)).toArray (V (ext xs)).toArray (0, 0) _ _ _ rfl rfl rfl (Arr.rowOther A4.out.row (by omega)) (Arr.row (A5.out.rowOther (by omega))) Try.underlying63 rfl (size49 (gl_len (ext_len _) (ext_len _) _)) Try.underlying61 rfl (size_V (ext_len _))) rfl ⟨fun _ => by rw [Q1.out], fun q => absurd (HF.out.symm.trans q) (by decide), below_setRow (below_setRow B1.out (by omega) _) (by omega) _⟩
      · have HF := Lib.hid (it_no3 (r := r) (u := u) (xs := xs) (by rw [LA.out, Q1.out]; exact he))
        have hne : ((a : Int) != (n : Int)) = true := by simpa using (by omega : ¬ (a : Int) = n)
        clear he
        go_wp2_with (first | (refine wpList_store_row rfl 61 _ _ rfl w4.heap.size (V (pv xs)).toArray rfl rfl 61 (V zeros).toArray (Arr.new w4 (V zeros) _ rfl) (size_V (pv_len _)) (by simp [V_len, pv_len, zeros]) (one_V _) ?_; generalize hw_ : (w4.alloc (.cells #[.int .i64 0, .int .i64 0, .int .i64 0, .int .i64 0, .int .i64 0, .int .i64 0, .int .i64 0, .int .i64 0, .int .i64 0, .int .i64 0, .int .i64 0, .int .i64 0, .int .i64 0, .int .i64 0, .int .i64 0, .int .i64 0, .int .i64 0, .int .i64 0, .int .i64 0, .int .i64 0, .int .i64 0, .int .i64 0, .int .i64 0, .int .i64 0] 61)).setRow w4.heap.size (V (pv xs)).toArray = w5; have A9 : Hid (Arr w5 w4.heap.size (V (pv xs)) 61) := Lib.hid (by rw [← hw_]; exact (Arr.new w4 (V zeros) _ rfl).row); have b1 : Below w4.heap.size w4 w5 := (by rw [← hw_]; exact arr.below_setRow ((Below.refl _ _).alloc (Nat.le_refl _) _) (Nat.le_refl _) _); have t_w5 : w4.heap.size + 1 ≤ w5.heap.size := (by rw [← hw_]; simp); clear hw_; replace A4 := Lib.hid (A4.out.keep b1 A4.out.lt); replace A5 := Lib.hid (A5.out.keep b1 A5.out.lt); replace A7 := Lib.hid (A7.out.keep b1 A7.out.lt); replace B1 := Lib.hid (B1.out.trans (b1.mono B1.out.size)); clear b1; have hct := gl_count (ext_len r) (ext_len u) A7.out) | (refine wpList_build rfl 63 _ rfl [] rfl (V zero49).toArray built_zero ?_) | (refine wpList_build rfl 61 _ rfl [] rfl (V zeros).toArray built_zeroP ?_) | (refine wpList_store_row rfl 63 _ _ rfl (w.heap.size + 1) (V zero49).toArray rfl rfl 63 (V zero49).toArray A4.out (size49 zero49_len) rfl (one_V _) ?_) | (refine wpList_store_row rfl 61 _ _ rfl (w.heap.size + 2) (V zeros).toArray rfl rfl 61 (V zeros).toArray (A5.out.rowOther (by omega)) (size_V zeros_len) rfl (one_V _) ?_) | fail)
        exact bodyPost_ret (v := .tuple #[.agg (V zero49).toArray, .agg (V zeros).toArray, .bool false]) (results_cells_tmp rfl _ _ (w.heap.size + 1) (w.heap.size + 2) 63 61 (V zero49).toArray (V zeros).toArray (0, 0) _ _ _ rfl rfl rfl (Arr.rowOther A4.out.row (by omega)) (Arr.row (A5.out.rowOther (by omega))) Try.underlying63 rfl (size49 zero49_len) Try.underlying61 rfl (size_V zeros_len)) rfl ⟨fun q => absurd (HF.out.symm.trans q) (by decide), fun _ => rfl, below_setRow (below_setRow B1.out (by omega) _) (by omega) _⟩
    · have oy' : okB xs = false := by simpa using oy
      have HF := Lib.hid (it_no2 (r := r) (u := u) oy')
      rw [oy']
      clear oy
      go_wp2_with (first | (refine wpList_store_row rfl 61 _ _ rfl w4.heap.size (V (pv xs)).toArray rfl rfl 61 (V zeros).toArray (Arr.new w4 (V zeros) _ rfl) (size_V (pv_len _)) (by simp [V_len, pv_len, zeros]) (one_V _) ?_; generalize hw_ : (w4.alloc (.cells #[.int .i64 0, .int .i64 0, .int .i64 0, .int .i64 0, .int .i64 0, .int .i64 0, .int .i64 0, .int .i64 0, .int .i64 0, .int .i64 0, .int .i64 0, .int .i64 0, .int .i64 0, .int .i64 0, .int .i64 0, .int .i64 0, .int .i64 0, .int .i64 0, .int .i64 0, .int .i64 0, .int .i64 0, .int .i64 0, .int .i64 0, .int .i64 0] 61)).setRow w4.heap.size (V (pv xs)).toArray = w5; have A9 : Hid (Arr w5 w4.heap.size (V (pv xs)) 61) := Lib.hid (by rw [← hw_]; exact (Arr.new w4 (V zeros) _ rfl).row); have b1 : Below w4.heap.size w4 w5 := (by rw [← hw_]; exact arr.below_setRow ((Below.refl _ _).alloc (Nat.le_refl _) _) (Nat.le_refl _) _); have t_w5 : w4.heap.size + 1 ≤ w5.heap.size := (by rw [← hw_]; simp); clear hw_; replace A4 := Lib.hid (A4.out.keep b1 A4.out.lt); replace A5 := Lib.hid (A5.out.keep b1 A5.out.lt); replace A7 := Lib.hid (A7.out.keep b1 A7.out.lt); replace B1 := Lib.hid (B1.out.trans (b1.mono B1.out.size)); clear b1) | (refine wpList_build rfl 63 _ rfl [] rfl (V zero49).toArray built_zero ?_) | (refine wpList_build rfl 61 _ rfl [] rfl (V zeros).toArray built_zeroP ?_) | (refine wpList_store_row rfl 63 _ _ rfl (w.heap.size + 1) (V zero49).toArray rfl rfl 63 (V zero49).toArray A4.out (size49 zero49_len) rfl (one_V _) ?_) | (refine wpList_store_row rfl 61 _ _ rfl (w.heap.size + 2) (V zeros).toArray rfl rfl 61 (V zeros).toArray (A5.out.rowOther (by omega)) (size_V zeros_len) rfl (one_V _) ?_) | fail)
      exact bodyPost_ret (v := .tuple #[.agg (V zero49).toArray, .agg (V zeros).toArray, .bool false]) (results_cells_tmp rfl _ _ (w.heap.size + 1) (w.heap.size + 2) 63 61 (V zero49).toArray (V zeros).toArray (0, 0) _ _ _ rfl rfl rfl (Arr.rowOther A4.out.row (by omega)) (Arr.row (A5.out.rowOther (by omega))) Try.underlying63 rfl (size49 zero49_len) Try.underlying61 rfl (size_V zeros_len)) rfl ⟨fun q => absurd (HF.out.symm.trans q) (by decide), fun _ => rfl, below_setRow (below_setRow B1.out (by omega) _) (by omega) _⟩
  · have hq' : transB r u = false := by simpa using hq
    have HF := Lib.hid (it_no1 (xs := xs) hq')
    rw [hq']
    clear hq
    go_wp2_with (first | (refine wpList_store_row rfl 61 _ _ rfl w4.heap.size (V (pv xs)).toArray rfl rfl 61 (V zeros).toArray (Arr.new w4 (V zeros) _ rfl) (size_V (pv_len _)) (by simp [V_len, pv_len, zeros]) (one_V _) ?_; generalize hw_ : (w4.alloc (.cells #[.int .i64 0, .int .i64 0, .int .i64 0, .int .i64 0, .int .i64 0, .int .i64 0, .int .i64 0, .int .i64 0, .int .i64 0, .int .i64 0, .int .i64 0, .int .i64 0, .int .i64 0, .int .i64 0, .int .i64 0, .int .i64 0, .int .i64 0, .int .i64 0, .int .i64 0, .int .i64 0, .int .i64 0, .int .i64 0, .int .i64 0, .int .i64 0] 61)).setRow w4.heap.size (V (pv xs)).toArray = w5; have A9 : Hid (Arr w5 w4.heap.size (V (pv xs)) 61) := Lib.hid (by rw [← hw_]; exact (Arr.new w4 (V zeros) _ rfl).row); have b1 : Below w4.heap.size w4 w5 := (by rw [← hw_]; exact arr.below_setRow ((Below.refl _ _).alloc (Nat.le_refl _) _) (Nat.le_refl _) _); have t_w5 : w4.heap.size + 1 ≤ w5.heap.size := (by rw [← hw_]; simp); clear hw_; replace A4 := Lib.hid (A4.out.keep b1 A4.out.lt); replace A5 := Lib.hid (A5.out.keep b1 A5.out.lt); replace A7 := Lib.hid (A7.out.keep b1 A7.out.lt); replace B1 := Lib.hid (B1.out.trans (b1.mono B1.out.size)); clear b1) | (refine wpList_build rfl 63 _ rfl [] rfl (V zero49).toArray built_zero ?_) | (refine wpList_build rfl 61 _ rfl [] rfl (V zeros).toArray built_zeroP ?_) | (refine wpList_store_row rfl 63 _ _ rfl (w.heap.size + 1) (V zero49).toArray rfl rfl 63 (V zero49).toArray A4.out (size49 zero49_len) rfl (one_V _) ?_) | (refine wpList_store_row rfl 61 _ _ rfl (w.heap.size + 2) (V zeros).toArray rfl rfl 61 (V zeros).toArray (A5.out.rowOther (by omega)) (size_V zeros_len) rfl (one_V _) ?_) | fail)
    exact bodyPost_ret (v := .tuple #[.agg (V zero49).toArray, .agg (V zeros).toArray, .bool false]) (results_cells_tmp rfl _ _ (w.heap.size + 1) (w.heap.size + 2) 63 61 (V zero49).toArray (V zeros).toArray (0, 0) _ _ _ rfl rfl rfl (Arr.rowOther A4.out.row (by omega)) (Arr.row (A5.out.rowOther (by omega))) Try.underlying63 rfl (size49 zero49_len) Try.underlying61 rfl (size_V zeros_len)) rfl ⟨fun q => absurd (HF.out.symm.trans q) (by decide), fun _ => rfl, below_setRow (below_setRow B1.out (by omega) _) (by omega) _⟩
set_option maxHeartbeats 2000000 in
theorem it_impl (v : Value) (r u : List Int) (A : Option Addr) (a ca : Nat) (xs : List Int) (hi h2 : Nat) (w : World) (hx : Srd w hi v r u) (hy : Rd w h2 A a (V xs)) (hn : r.length ≤ 1048576) (hm : u.length ≤ 1048576) (hna : a ≤ 1048576) :
    Calls Try.prog 22 #[v, .slice A a ca] w fun e w' => e = .returned (.bool (itB r u xs)) ∧ Below w.heap.size w w' := by
  have HX := Lib.hid hx; have HY := Lib.hid hy
  obtain ⟨P, n, c, Q, m, d, rfl, q1, q2, e1, e2, ht, HR⟩ := hx.open
  have h2' := hy.2.1
  clear hx hy HR q1 q2
  go_enter Try.func22, Try.ntmps22
  go_wp2_with fail
  have b0 : Below w.heap.size w (w.alloc (.cells #[.slice P n c, .slice Q m d] 25)) := (Below.refl _ _).alloc (Nat.le_refl _) _
  refine (turnOf_any _ r u A a ca xs hi h2 _ (HX.out.keep (b0.mono ht) (Nat.le_refl _)) (HY.out.keep (b0.mono h2') (Nat.le_refl _)) hn hm hna).mono ?_
  rintro e w2 ⟨p1, p2, b1⟩
  have B1 := Lib.hid (below1 _ _ b1); clear b1 b0
  have s2 := B1.out.size
  have BB : Hid (∀ (x y : Obj) (cs cs' : Array Value), Below w.heap.size w ((((w2.alloc x).alloc y).setRow w2.heap.size cs).setRow (w2.heap.size + 1) cs')) := Lib.hid (fun x y cs cs' => below_setRow (below_setRow (((B1.out).alloc (by omega) _).alloc (by simp; omega) _) (by omega) _) (by omega) _)
  cases hb : itB r u xs
  · obtain rfl := p2 hb
    clear p1 p2
    go_wp2_with (first | (refine wpList_store_row rfl 63 _ _ rfl w2.heap.size (V zero49).toArray rfl rfl 63 (V zero49).toArray ((Arr.new w2 (V zero49) _ rfl).alloc _) (size49 (zero49_len)) (rfl) (one_V _) ?_) | (refine wpList_store_row rfl 61 _ _ rfl (w2.heap.size + 1) (V zeros).toArray rfl rfl 61 (V zeros).toArray (Arr.rowOther (Arr.new _ (V zeros) _ (by simp)) (by omega)) (size_V (zeros_len)) (rfl) (one_V _) ?_) | fail)
    go_ret
    exact ⟨ret_bool hb.symm, BB.out _ _ _ _⟩
  · obtain rfl := p1 hb
    clear p1 p2
    go_wp2_with (first | (refine wpList_store_row rfl 63 _ _ rfl w2.heap.size (V (gl (ext r) (ext u) r.length)).toArray rfl rfl 63 (V zero49).toArray ((Arr.new w2 (V zero49) _ rfl).alloc _) (size49 (gl_len (ext_len _) (ext_len _) _)) (by simp [V_len, gl_len, ext_len, zero49]) (one_V _) ?_) | (refine wpList_store_row rfl 61 _ _ rfl (w2.heap.size + 1) (V (ext xs)).toArray rfl rfl 61 (V zeros).toArray (Arr.rowOther (Arr.new _ (V zeros) _ (by simp)) (by omega)) (size_V (ext_len _)) (by simp [V_len, ext_len, zeros]) (one_V _) ?_) | fail)
    go_ret
    exact ⟨ret_bool hb.symm, BB.out _ _ _ _⟩
end Go.Proofs.Ytpmojmhamgcfmaa.ht
