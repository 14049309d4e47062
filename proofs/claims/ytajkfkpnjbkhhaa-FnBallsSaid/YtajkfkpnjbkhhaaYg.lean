/-
  A drawn table and ball (MakeBall of the model).
-/
import Derived.Test.YtajkfkpnjbkhhaaYb
import Derived.Test.YtajkfkpnjbkhhaaMC
import Derived.Test.YtajkfkpnjbkhhaaPermsOf
import Derived.Test.YtajkfkpnjbkhhaaRg
namespace Go.Proofs.Ytajkfkpnjbkhhaa.bal
open Go.ChangeShapes Go.WideShapes Go.ChangeAt Go.RowKit
open Go.Proofs.Ytajkfkpnjbkhhaa.mem Go.Proofs.Ytajkfkpnjbkhhaa.ints Go.Proofs.Ytajkfkpnjbkhhaa.arr Go.Proofs.Ytajkfkpnjbkhhaa.pm Go.Proofs.Ytajkfkpnjbkhhaa.permOk Go.Proofs.Ytajkfkpnjbkhhaa.sf Go.Proofs.Ytajkfkpnjbkhhaa.cur
set_option linter.unusedVariables false
set_option maxRecDepth 100000
set_option linter.unusedSimpArgs false
theorem tn_ok {a x d : Int} (ha : 1 ≤ a) (h0 : 0 ≤ x) (h1 : x ≤ a) (hd : d = 1 ∨ d = -1) : lnB a x (tnF a x d) = true := by
  rw [ln_iff]
  unfold tnF
  split
  · omega
  · split <;> omega
theorem results_tmp2_cell {P : Program} {fn : Func} {p q r : Tmp} {ty : TypeId} (h : fn.results = #[.tmp p, .tmp q, .cell r ty]) (tmps : Array Value) (w : World) (g : Nat) (t : TypeId) (cs : Array Value) (fr : Nat × Nat) (d : TypeDesc) (v v2 : Value)
    (hp : tmps.getD p undef = v) (hq : tmps.getD q undef = v2) (hr : tmps.getD r undef = .pointer (some ⟨g, 0, none⟩)) (hg : w.heap[g]? = some (.cells cs t fr))
    (hu : P.underlying ty = some d) (hd : (match d with | .struct _ | .array _ _ => true | _ => false) = true) (hi : (P.info? ty).map (·.size) = some cs.size) :
    (results fn tmps).run P w = .ok (.tuple #[v, v2, .agg cs]) w := by
  have hp' : tmps[p]?.getD undef = v := by simpa using hp
  have hq' : tmps[q]?.getD undef = v2 := by simpa using hq
  have hr' : tmps[r]?.getD undef = .pointer (some ⟨g, 0, none⟩) := by simpa using hr
  simp [results, h, hp', hq', hr', asAddr, run_loadVar_row w g t ty cs fr d hg hu hd hi]
theorem Hld_low {base base' top : Nat} {w W : World} {bs : List (Nat × List Value)} (h : Hld base top w bs W) (hb : base' ≤ base) : Hld base' top w bs W := ⟨h.at_, h.below.mono hb, h.size⟩
theorem Hld_oth {base top : Nat} {w W : World} {bs : List (Nat × List Value)} (h : Hld base top w bs W) {g : Nat} (hg : base ≤ g) (hne : ∀ p ∈ bs, p.1 ≠ g) (cs : Array Value) : Hld base top w bs (W.setRow g cs) :=
  ⟨fun p hp => ⟨(h.at_ p hp).1, fun j v hv => by
    rw [World.cell?_of_block (w := W) (a := ⟨p.1, 0 + j, none⟩) (setRow_other W g p.1 cs (hne p hp))]
    exact (h.at_ p hp).2 j v hv⟩, below_setRow h.below hg _, by simpa using h.size⟩
def DbPost (w : World) (e : Ending) (w' : World) : Prop := ∃ (a b : Nat) (x : Bal), e = .returned (.tuple #[.int .i64 a, .int .i64 b, bv x]) ∧ a ≤ 12 ∧ b ≤ 12 ∧ blB a b x = true ∧ Below w.heap.size w w'

set_option maxHeartbeats 4000000 in
theorem draw_any (w : World) (g : Nat) (A : Option Addr) (n c : Nat) (l : List Int) (B : Nat) (hB : B ≤ g) (hg : g < w.heap.size) (hc : Cur w g A n c l) :
    Calls Try.prog 29 #[.pointer (some ⟨g, 0, none⟩)] w fun e w' => ∃ (a b : Nat) (x : Bal), e = .returned (.tuple #[.int .i64 a, .int .i64 b, bv x]) ∧ a ≤ 12 ∧ b ≤ 12 ∧ blB a b x = true ∧ Below B w w' := by
  have HC := Lib.hid hc; clear hc
  go_enter Try.func29, Try.ntmps29
  go_wp2_with fail
  generalize hw0 : w.alloc (.cells #[.int .i64 0, .int .i64 0, .int .i64 0, .int .i64 0] 24) = w0
  have A0 : Hid (Arr w0 w.heap.size (V (be (0, 0, 0, 0))) 24) := Lib.hid (by rw [← hw0]; exact Arr.new w _ _ rfl)
  have b0 : Below w.heap.size w w0 := (by rw [← hw0]; exact (Below.refl _ _).alloc (Nat.le_refl _) _)
  have s0 : w0.heap.size = w.heap.size + 1 := (by rw [← hw0]; simp)
  clear hw0
  have C0 := Lib.hid (HC.out.keep b0 hg)
  have HB := Lib.hid (b0.mono (show B ≤ w.heap.size by omega)); clear b0 HC
  refine (below_any w0 g A n c l 12 (by omega) (by omega) C0.out).mono ?_
  rintro e w1 ⟨ya, ya0, ya1, rfl, hcur, ho⟩
  replace HB := Lib.hid (HB.out.trans (ho.below hB (by omega)))
  replace A0 := Lib.hid (A0.out.out ho (by omega))
  have C1 := Lib.hid hcur; have t1 := ho.size; clear hcur C0 ho
  have wa : IntKind.i64.wrap (1 + ya) = 1 + ya := IntWalk.i64_in _ (by omega)
  go_wp2_with fail
  refine (below_any w1 g A n c l 12 (by omega) (by omega) C1.out).mono ?_
  rintro e w2 ⟨yb, yb0, yb1, rfl, hcur, ho⟩
  replace HB := Lib.hid (HB.out.trans (ho.below hB (by omega)))
  replace A0 := Lib.hid (A0.out.out ho (by omega))
  have C2 := Lib.hid hcur; have t2 := ho.size; clear hcur C1 ho
  have wb : IntKind.i64.wrap (1 + yb) = 1 + yb := IntWalk.i64_in _ (by omega)
  obtain ⟨a, ha⟩ := Int.eq_ofNat_of_zero_le (show 0 ≤ 1 + ya by omega)
  obtain ⟨b, hb⟩ := Int.eq_ofNat_of_zero_le (show 0 ≤ 1 + yb by omega)
  have a1 : 1 ≤ a := by omega
  have a2 : a ≤ 12 := by omega
  have b1 : 1 ≤ b := by omega
  have b2 : b ≤ 12 := by omega
  rw [ha] at wa ⊢
  clear ya0 ya1 yb0 yb1
  have wa1 : IntKind.i64.wrap ((a : Int) + 1) = (a : Int) + 1 := IntWalk.i64_in _ (by omega)
  have wb1 : IntKind.i64.wrap ((b : Int) + 1) = (b : Int) + 1 := IntWalk.i64_in _ (by omega)
  go_wp2_with fail
  refine (below_any w2 g A n c l ((a : Int) + 1) (by omega) (by omega) C2.out).mono ?_
  rintro e w3 ⟨X, X0, X1, rfl, hcur, ho⟩
  replace HB := Lib.hid (HB.out.trans (ho.below hB (by omega)))
  replace A0 := Lib.hid (A0.out.out ho (by omega))
  have C3 := Lib.hid hcur; have t3 := ho.size; clear hcur C2 ho
  go_wp2_with fail
  refine (below_any w3 g A n c l ((b : Int) + 1) (by omega) (by omega) C3.out).mono ?_
  rintro e w4 ⟨Y, Y0, Y1, rfl, hcur, ho⟩
  replace HB := Lib.hid (HB.out.trans (ho.below hB (by omega)))
  replace A0 := Lib.hid (A0.out.out ho (by omega))
  have C4 := Lib.hid hcur; have t4 := ho.size; clear hcur C3 ho
  go_wp2_with fail
  refine (below_any w4 g A n c l 2 (by omega) (by omega) C4.out).mono ?_
  rintro e w5 ⟨z, z0, z1, rfl, hcur, ho⟩
  replace HB := Lib.hid (HB.out.trans (ho.below hB (by omega)))
  replace A0 := Lib.hid (A0.out.out ho (by omega))
  have C5 := Lib.hid hcur; have t5 := ho.size; clear hcur C4 ho
  go_wp2_with fail
  refine (below_any w5 g A n c l 2 (by omega) (by omega) C5.out).mono ?_
  rintro e w6 ⟨u, u0, u1, rfl, hcur, ho⟩
  replace HB := Lib.hid (HB.out.trans (ho.below hB (by omega)))
  replace A0 := Lib.hid (A0.out.out ho (by omega))
  have C6 := Lib.hid hcur; have t6 := ho.size; clear hcur C5 ho
  have hz : 2 * z - 1 = 1 ∨ 2 * z - 1 = -1 := by omega
  have hu : 2 * u - 1 = 1 ∨ 2 * u - 1 = -1 := by omega
  have wz : IntKind.i64.wrap (2 * z) = 2 * z := IntWalk.i64_in _ (by omega)
  have wu : IntKind.i64.wrap (2 * u) = 2 * u := IntWalk.i64_in _ (by omega)
  have wz1 : IntKind.i64.wrap (2 * z - 1) = 2 * z - 1 := IntWalk.i64_in _ (by omega)
  have wu1 : IntKind.i64.wrap (2 * u - 1) = 2 * u - 1 := IntWalk.i64_in _ (by omega)
  clear z0 z1 u0 u1
  have Xa : X ≤ (a : Int) := by clear hz hu wz wu wz1 wu1; omega
  have Yb : Y ≤ (b : Int) := by clear hz hu wz wu wz1 wu1; omega
  have VB : Hid (blB a b (X, Y, tnF a X (2 * z - 1), tnF b Y (2 * u - 1)) = true) := Lib.hid (bl_iff.2 ⟨tb_iff.2 (by omega), tn_ok (by omega) X0 Xa hz, tn_ok (by omega) Y0 Yb hu⟩)
  clear hz hu
  clear C6
  go_wp2_with (go_at_call 43; refine (turn_spec _ _ _ _).mono ?_; rintro e w' ⟨rfl, rfl⟩)
  obtain ⟨zb, hzb⟩ : ∃ zb : Bal, zb = (X, Y, tnF a X (2 * z - 1), tnF b Y (2 * u - 1)) := ⟨_, rfl⟩
  generalize hw7 : w6.alloc (.cells #[.int .i64 X, .int .i64 Y, .int .i64 (tnF a X (2 * z - 1)), .int .i64 (tnF b Y (2 * u - 1))] 24) = w7
  have AX : Hid (Arr w7 w6.heap.size (V (be zb)) 24) := Lib.hid (by rw [← hw7, hzb]; exact Arr.new w6 _ _ rfl)
  have bb : Below w6.heap.size w6 w7 := (by rw [← hw7]; exact (Below.refl _ _).alloc (Nat.le_refl _) _)
  clear hw7
  rw [← hzb] at VB
  clear hzb
  replace A0 := Lib.hid (A0.out.keep bb A0.out.lt)
  replace HB := Lib.hid (HB.out.trans (bb.mono (by have := HB.out.size; omega)))
  have t7 := bb.size; clear bb
  refine wp_region_held_drew (S := Hld B w7.heap.size w7 [(w6.heap.size, V (be zb))]) (by kernel_rfl) (Hld_low (Hld.start1 AX.out) (by have := HB.out.size; omega)) (fun hHeld => ?_)
  have bd : Below w7.heap.size w7 w7.drew := ⟨rfl, rfl, rfl, Nat.le_refl _, fun _ _ => rfl⟩
  generalize w7.drew = w8 at *
  replace A0 := Lib.hid (A0.out.keep bd A0.out.lt)
  replace HB := Lib.hid (HB.out.trans (bd.mono (by have := HB.out.size; omega)))
  clear bd AX
  refine wpAnyH_take (i := 0) (v := .int .i64 (a : Int)) rfl (by kernel_rfl) (by kernel_rfl) (by kernel_rfl) (fun _ _ _ h => h) (Or.inl ⟨by rfl, fun w hSw => by go_simp⟩) hHeld ?_
  refine wpAnyH_take (i := 1) (v := .int .i64 (b : Int)) rfl (by kernel_rfl) (by kernel_rfl) (by kernel_rfl) (fun _ _ _ h => h) (Or.inl ⟨by rfl, fun w hSw => by go_simp⟩) hHeld ?_
  refine wpAnyH_take (i := 2) (v := .agg (V (be zb)).toArray) rfl (by kernel_rfl) (by kernel_rfl) (by kernel_rfl) (fun _ _ _ h => h) (yieldsIf_load_mid (by rfl) _ _ rfl (w6.heap.size) 0 rfl (V (be zb)) _ (fun w h => h.fst) Try.underlying24 rfl (by have := sizeB zb; rwa [List.size_toArray] at this)) hHeld ?_
  refine wpAnyH_take (i := 3) (v := .int .i64 (a : Int)) rfl (by kernel_rfl) (by kernel_rfl) (by kernel_rfl) (fun _ _ _ h => h) (Or.inl ⟨by rfl, fun w hSw => by go_simp⟩) hHeld ?_
  refine wpAnyH_take (i := 4) (v := .int .i64 (b : Int)) rfl (by kernel_rfl) (by kernel_rfl) (by kernel_rfl) (fun _ _ _ h => h) (Or.inl ⟨by rfl, fun w hSw => by go_simp⟩) hHeld ?_
  dsimp only [List.getElem_toArray, List.getElem_cons_zero, List.getElem_cons_succ, Act.put]
  simp only [List.setIfInBounds_toArray, List.set_cons_zero, List.set_cons_succ]
  refine wpAnyH_ready (rs := [5]) (by kernel_rfl) (by simp) (AllReadyH.cons rfl (fun K hK => ?_) AllReadyH.nil)
  refine permOf.step_store_row rfl 24 (.tmp 4) (.tmp 47) rfl w.heap.size (V (be zb)).toArray rfl rfl 24 (V (be (0, 0, 0, 0))).toArray A0.out (sizeB zb) (by simp [V, be]) (one_V _) ?_
  have hH2 := Hld_oth hHeld (g := w.heap.size) (by omega) (by simp; omega) (V (be zb)).toArray
  refine hK.out _ _ hH2 (fun _ => ?_)
  clear hK K hHeld hH2
  refine wpAnyH_done (by kernel_rfl) ?_ _
  go_wp2_with fail
  exact bodyPost_ret (v := .tuple #[.int .i64 a, .int .i64 b, bv zb]) (results_tmp2_cell rfl _ _ w.heap.size 24 (V (be zb)).toArray (0, 0) _ _ _ rfl rfl rfl A0.out.row Try.underlying24 rfl (sizeB _)) rfl ⟨a, b, zb, rfl, a2, b2, VB.out, below_setRow HB.out (by omega) _⟩

set_option maxHeartbeats 2000000 in
theorem mb_any (w : World) (hi : Nat) (A : Option Addr) (n c : Nat) (l : List Int) (hhi : hi ≤ w.heap.size) (hc : cur.Code w hi A n l) :
    Calls Try.prog 11 #[.slice A n c] w (DbPost w) := by
  have HC := Lib.hid hc; clear hc
  go_enter Try.func11, Try.ntmps11
  go_wp2_with fail
  generalize hw0 : w.alloc (.cells #[.int .i64 0, .int .i64 0, .int .i64 0, .int .i64 0] 24) = w0
  have A0 : Hid (Arr w0 w.heap.size (V (be (0, 0, 0, 0))) 24) := Lib.hid (by rw [← hw0]; exact Arr.new w _ _ rfl)
  have b0 : Below w.heap.size w w0 := (by rw [← hw0]; exact (Below.refl _ _).alloc (Nat.le_refl _) _)
  have s0 : w0.heap.size = w.heap.size + 1 := (by rw [← hw0]; simp)
  clear hw0
  refine (new_any w0 hi A n c l (HC.out.keep b0 hhi)).mono ?_
  rintro e w1 ⟨g, hg, hlt, rfl, hcur, hb⟩
  have HCU := Lib.hid hcur
  replace A0 := Lib.hid (A0.out.keep hb A0.out.lt)
  have HB := Lib.hid (b0.trans (hb.mono (by omega)))
  clear hcur hb HC b0
  go_wp2_with fail
  refine (draw_any w1 g A n c l (w.heap.size + 1) (by omega) hlt HCU.out).mono ?_
  rintro e w2 ⟨a, b, x, rfl, a2, b2, hx, b1⟩
  have HX := Lib.hid hx; clear hx
  replace A0 := Lib.hid (A0.out.keep b1 (by omega))
  replace HB := Lib.hid (HB.out.trans (b1.mono (by omega)))
  clear b1 HCU
  rw [bvV x]
  go_wp2_with (refine wpList_store_row rfl 24 _ _ rfl w.heap.size (V (be x)).toArray rfl rfl 24 (V (be (0, 0, 0, 0))).toArray A0.out (sizeB x) rfl (one_V _) ?_)
  exact bodyPost_ret (v := .tuple #[.int .i64 a, .int .i64 b, bv x]) (results_tmp2_cell rfl _ _ w.heap.size 24 (V (be x)).toArray (0, 0) _ _ _ rfl rfl rfl A0.out.row Try.underlying24 rfl (sizeB _)) rfl ⟨a, b, x, rfl, a2, b2, HX.out, below_setRow HB.out (Nat.le_refl _) _⟩
end Go.Proofs.Ytajkfkpnjbkhhaa.bal
