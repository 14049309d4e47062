/-
  The program's step of a ball: the side that it has reached turns it back, through the interface.
-/
import Derived.Test.YtajkfkpnjbkhhaaYj
namespace Go.Proofs.Ytajkfkpnjbkhhaa.bal
open Go.ChangeShapes Go.WideShapes Go.ChangeAt Go.RowKit
open Go.Proofs.Ytajkfkpnjbkhhaa.mem Go.Proofs.Ytajkfkpnjbkhhaa.ints Go.Proofs.Ytajkfkpnjbkhhaa.arr Go.Proofs.Ytajkfkpnjbkhhaa.pm Go.Proofs.Ytajkfkpnjbkhhaa.permOk Go.Proofs.Ytajkfkpnjbkhhaa.sf
set_option linter.unusedVariables false
set_option maxRecDepth 100000
set_option linter.unusedSimpArgs false
theorem tn_in {a X : Int} (d : Int) (ha : 1 ≤ a) : tnF a X d = if inF X a = 0 then d else inF X a := by
  unfold tnF inF
  by_cases h : X = a
  · have : ¬ X = 0 := by omega
    simp [h, this]; omega
  · by_cases h0 : X = 0 <;> simp [h, h0]
    intro e; omega
theorem st_tr {a b : Int} (x : Bal) (ha : 1 ≤ a) (hb : 1 ≤ b) : stF a b x = trF a b (x.1 + x.2.2.1, x.2.1 + x.2.2.2, x.2.2.1, x.2.2.2) := by
  unfold stF trF trU
  simp only
  rw [tn_in _ ha, tn_in _ hb]
theorem sd_cases (u v : Int) (x : Bal) :
    (u = 0 ∧ v = 0 ∧ sdU u v = .iface 66 (.agg #[]) ∧ trU u v x = x) ∨
    (u = 0 ∧ ¬ v = 0 ∧ sdU u v = .iface 56 (.int .i64 v) ∧ trU u v x = (x.1, x.2.1, x.2.2.1, v)) ∨
    (¬ u = 0 ∧ v = 0 ∧ sdU u v = .iface 55 (.int .i64 u) ∧ trU u v x = (x.1, x.2.1, u, x.2.2.2)) ∨
    (¬ u = 0 ∧ ¬ v = 0 ∧ sdU u v = .iface 58 (.agg #[.int .i64 u, .int .i64 v]) ∧ trU u v x = (x.1, x.2.1, u, v)) := by
  by_cases hu : u = 0 <;> by_cases hv : v = 0 <;> simp [sdU, trU, hu, hv]
theorem m_no (n : Nat) (w : World) : (method (n + 1) 66 (.agg #[]) "loop.example/g00928/impl.turned").run Try.prog w = .ok (63, .agg #[]) w := by kernel_rfl
theorem m_lv (n : Nat) (u : Int) (w : World) : (method (n + 1) 56 (.int .i64 u) "loop.example/g00928/impl.turned").run Try.prog w = .ok (61, .int .i64 u) w := by kernel_rfl
theorem m_up (n : Nat) (u : Int) (w : World) : (method (n + 1) 55 (.int .i64 u) "loop.example/g00928/impl.turned").run Try.prog w = .ok (60, .int .i64 u) w := by kernel_rfl
theorem m_co (n : Nat) (u v : Int) (w : World) : (method (n + 1) 58 (.agg #[.int .i64 u, .int .i64 v]) "loop.example/g00928/impl.turned").run Try.prog w = .ok (62, .agg #[.int .i64 u, .int .i64 v]) w := by kernel_rfl
set_option maxHeartbeats 4000000 in
theorem as_impl (a b : Int) (x : Bal) (w : World) (h : Sm a b x) : Calls Try.prog 33 #[.int .i64 a, .int .i64 b, bv x] w fun e w' => e = .returned (bv (stF a b x)) ∧ Below w.heap.size w w' := by
  have HT := Lib.hid (st_tr x h.a1 h.b1)
  obtain ⟨x1, y1, p, q⟩ := x
  have hx0 := h.x0; have hx1 := h.x1; have hy0 := h.y0; have hy1 := h.y1; have hp := h.dx; have hq := h.dy; have ha := h.a2; have hb := h.b2
  simp only at hx0 hx1 hy0 hy1 hp hq
  have e1 : IntKind.i64.wrap (x1 + p) = x1 + p := IntWalk.i64_in _ (by omega)
  have e2 : IntKind.i64.wrap (y1 + q) = y1 + q := IntWalk.i64_in _ (by omega)
  clear h
  unfold bv
  go_enter Try.func33, Try.ntmps33
  go_wp2_with fail
  generalize hw1 : (w.alloc _).alloc _ = w1
  obtain ⟨y, hy⟩ : ∃ y : Bal, y = (x1 + p, y1 + q, p, q) := ⟨_, rfl⟩
  have GX : Hid (Arr w1 w.heap.size (V (be y)) 24) := Lib.hid (by rw [← hw1, hy]; exact (Arr.new w (V (be (x1 + p, y1 + q, p, q))) 24 rfl).alloc _)
  have GR : Hid (Arr w1 (w.heap.size + 1) (V (be (0, 0, 0, 0))) 24) := Lib.hid (by rw [← hw1]; exact Arr.new _ (V (be (0, 0, 0, 0))) 24 (by simp))
  have BB : Hid (Below w.heap.size w w1) := Lib.hid (by rw [← hw1]; exact ((Below.refl _ _).alloc (Nat.le_refl _) _).alloc (by simp) _)
  have HY : Hid (stF a b (x1, y1, p, q) = trF a b y) := Lib.hid (by rw [HT.out, hy])
  clear hw1 HT hy e1 e2 hx0 hx1 hy0 hy1 hp hq ha hb
  have s_b := BB.out.size
  refine wp_region_held_drew (S := Hld w.heap.size w1.heap.size w1 [(w.heap.size, V (be y))]) (by kernel_rfl) (Hlow (start_allB (fun p hp => by simp only [List.mem_cons, List.not_mem_nil, or_false] at hp; subst hp; exact ⟨_, GX.out⟩)) (by have := BB.out.size; omega)) (fun hHeld => ?_)
  have RGX : Hid (∀ W, Hld w.heap.size w1.heap.size w1 [(w.heap.size, V (be y))] W → W.rangeAt w.heap.size 0 (V (be y))) := Lib.hid (fun W h => (h.at_ (w.heap.size, V (be y)) (by simp)).2)
  have b1 : Below w1.heap.size w1 w1.drew := ⟨rfl, rfl, rfl, Nat.le_refl _, fun _ _ => rfl⟩
  generalize w1.drew = v0 at *
  have s_v0 := b1.size
  replace GR := Lib.hid (GR.out.keep b1 GR.out.lt)
  replace BB := Lib.hid (BB.out.trans (b1.mono BB.out.size)); clear b1
  refine wpAnyH_take (i := 0) (v := .int .i64 a) rfl (by kernel_rfl) (by kernel_rfl) (by kernel_rfl) (fun _ _ _ h => h) (Or.inl ⟨by kernel_rfl, fun w hSw => by go_simp⟩) hHeld ?_
  refine wpAnyH_take (i := 1) (v := .int .i64 b) rfl (by kernel_rfl) (by kernel_rfl) (by kernel_rfl) (fun _ _ _ h => h) (Or.inl ⟨by kernel_rfl, fun w hSw => by go_simp⟩) hHeld ?_
  refine wpAnyH_take (i := 2) (v := .agg (V (be y)).toArray) rfl (by kernel_rfl) (by kernel_rfl) (by kernel_rfl) (fun _ _ _ h => h) (yieldsIf_load_mid (by kernel_rfl) 24 (.tmp 5) rfl w.heap.size 0 (by kernel_rfl) (V (be y)) _ (fun W h => RGX.out W h) Try.underlying24 rfl (by have := sizeB y; rwa [List.size_toArray] at this)) hHeld ?_
  refine wpAnyH_take (i := 4) (v := .agg (V (be y)).toArray) rfl (by kernel_rfl) (by kernel_rfl) (by kernel_rfl) (fun _ _ _ h => h) (yieldsIf_load_mid (by kernel_rfl) 24 (.tmp 5) rfl w.heap.size 0 (by kernel_rfl) (V (be y)) _ (fun W h => RGX.out W h) Try.underlying24 rfl (by have := sizeB y; rwa [List.size_toArray] at this)) hHeld ?_
  dsimp only [List.append, List.getElem_toArray, List.getElem_cons_zero, List.getElem_cons_succ, Act.put]
  try simp only [List.setIfInBounds_toArray, List.set_cons_zero, List.set_cons_succ]
  refine wpAnyH_ready (rs := [3]) (by kernel_rfl) (by simp) (AllReadyH.cons rfl (fun K hK => ?_) AllReadyH.nil)
  go_simp
  rw [← bvV y]
  refine (sd_impl a b y _).mono ?_
  rintro e v1 ⟨rfl, b1⟩
  have s_v1 := b1.size
  have hHeld2 := hHeld.later b1 (by have := hHeld.size; have := BB.out.size; omega); clear hHeld
  replace GR := Lib.hid (GR.out.keep b1 GR.out.lt)
  replace BB := Lib.hid (BB.out.trans (b1.mono BB.out.size)); clear b1
  go_wp2_with fail
  refine hK.out _ _ hHeld2 (fun hHeld => ?_)
  clear hK K hHeld2
  have SC := sd_cases (inF y.1 a) (inF y.2.1 b) y
  change (_ ∧ _ ∧ sdV a b y = _ ∧ trF a b y = _) ∨ (_ ∧ _ ∧ sdV a b y = _ ∧ trF a b y = _) ∨ (_ ∧ _ ∧ sdV a b y = _ ∧ trF a b y = _) ∨ (_ ∧ _ ∧ sdV a b y = _ ∧ trF a b y = _) at SC
  rcases SC with ⟨-, -, hs, ht⟩ | ⟨-, -, hs, ht⟩ | ⟨-, -, hs, ht⟩ | ⟨-, -, hs, ht⟩
  · rw [hs]
    replace HY := Lib.hid (HY.out.trans ht); clear hs ht
    refine wpAnyH_ready (rs := [5]) (by kernel_rfl) (by simp) (AllReadyH.cons rfl (fun K hK => ?_) AllReadyH.nil)
    go_simp
    rw [m_no]
    go_simp
    refine (no_impl y _).mono ?_
    rintro e v2 ⟨rfl, b1⟩
    rw [← HY.out]
    clear HY
    have s_v2 := b1.size
    have hHeld2 := hHeld.later b1 (by omega); clear hHeld
    replace GR := Lib.hid (GR.out.keep b1 GR.out.lt)
    replace BB := Lib.hid (BB.out.trans (b1.mono BB.out.size)); clear b1
    obtain ⟨z, hz⟩ : ∃ z, z = stF a b (x1, y1, p, q) := ⟨_, rfl⟩
    rw [← hz]
    have HZ := Lib.hid hz; clear hz
    go_wp2_with fail
    refine hK.out _ _ hHeld2 (fun hHeld => ?_)
    clear hK K hHeld2
    refine wpAnyH_ready (rs := [6]) (by kernel_rfl) (by simp) (AllReadyH.cons rfl (fun K hK => ?_) AllReadyH.nil)
    refine permOf.step_store_row rfl 24 (.tmp 6) (.tmp 24) rfl (w.heap.size + 1) (V (be z)).toArray rfl rfl 24 (V (be (0, 0, 0, 0))).toArray GR.out (sizeB _) (by simp [V, be]) (one_V _) ?_
    have hH2 := Hoth hHeld (g := w.heap.size + 1) (by omega) (by simp) (V (be z)).toArray
    refine hK.out _ _ hH2 (fun _ => ?_)
    clear hK K hHeld hH2
    refine wpAnyH_done (by kernel_rfl) ?_ _
    go_wp2_with fail
    exact bodyPost_ret (v := bv z) (results_cell_row rfl _ _ (w.heap.size + 1) 24 (V (be z)).toArray (0, 0) _ rfl GR.out.row Try.underlying24 rfl (sizeB _)) rfl ⟨by rw [HZ.out]; rfl, below_setRow BB.out (by omega) _⟩
  · rw [hs]
    replace HY := Lib.hid (HY.out.trans ht); clear hs ht
    refine wpAnyH_ready (rs := [5]) (by kernel_rfl) (by simp) (AllReadyH.cons rfl (fun K hK => ?_) AllReadyH.nil)
    go_simp
    rw [m_lv]
    go_simp
    refine (lv_impl _ y _).mono ?_
    rintro e v2 ⟨rfl, b1⟩
    rw [← HY.out]
    clear HY
    have s_v2 := b1.size
    have hHeld2 := hHeld.later b1 (by omega); clear hHeld
    replace GR := Lib.hid (GR.out.keep b1 GR.out.lt)
    replace BB := Lib.hid (BB.out.trans (b1.mono BB.out.size)); clear b1
    obtain ⟨z, hz⟩ : ∃ z, z = stF a b (x1, y1, p, q) := ⟨_, rfl⟩
    rw [← hz]
    have HZ := Lib.hid hz; clear hz
    go_wp2_with fail
    refine hK.out _ _ hHeld2 (fun hHeld => ?_)
    clear hK K hHeld2
    refine wpAnyH_ready (rs := [6]) (by kernel_rfl) (by simp) (AllReadyH.cons rfl (fun K hK => ?_) AllReadyH.nil)
    refine permOf.step_store_row rfl 24 (.tmp 6) (.tmp 24) rfl (w.heap.size + 1) (V (be z)).toArray rfl rfl 24 (V (be (0, 0, 0, 0))).toArray GR.out (sizeB _) (by simp [V, be]) (one_V _) ?_
    have hH2 := Hoth hHeld (g := w.heap.size + 1) (by omega) (by simp) (V (be z)).toArray
    refine hK.out _ _ hH2 (fun _ => ?_)
    clear hK K hHeld hH2
    refine wpAnyH_done (by kernel_rfl) ?_ _
    go_wp2_with fail
    exact bodyPost_ret (v := bv z) (results_cell_row rfl _ _ (w.heap.size + 1) 24 (V (be z)).toArray (0, 0) _ rfl GR.out.row Try.underlying24 rfl (sizeB _)) rfl ⟨by rw [HZ.out]; rfl, below_setRow BB.out (by omega) _⟩
  · rw [hs]
    replace HY := Lib.hid (HY.out.trans ht); clear hs ht
    refine wpAnyH_ready (rs := [5]) (by kernel_rfl) (by simp) (AllReadyH.cons rfl (fun K hK => ?_) AllReadyH.nil)
    go_simp
    rw [m_up]
    go_simp
    refine (up_impl _ y _).mono ?_
    rintro e v2 ⟨rfl, b1⟩
    rw [← HY.out]
    clear HY
    have s_v2 := b1.size
    have hHeld2 := hHeld.later b1 (by omega); clear hHeld
    replace GR := Lib.hid (GR.out.keep b1 GR.out.lt)
    replace BB := Lib.hid (BB.out.trans (b1.mono BB.out.size)); clear b1
    obtain ⟨z, hz⟩ : ∃ z, z = stF a b (x1, y1, p, q) := ⟨_, rfl⟩
    rw [← hz]
    have HZ := Lib.hid hz; clear hz
    go_wp2_with fail
    refine hK.out _ _ hHeld2 (fun hHeld => ?_)
    clear hK K hHeld2
    refine wpAnyH_ready (rs := [6]) (by kernel_rfl) (by simp) (AllReadyH.cons rfl (fun K hK => ?_) AllReadyH.nil)
    refine permOf.step_store_row rfl 24 (.tmp 6) (.tmp 24) rfl (w.heap.size + 1) (V (be z)).toArray rfl rfl 24 (V (be (0, 0, 0, 0))).toArray GR.out (sizeB _) (by simp [V, be]) (one_V _) ?_
    have hH2 := Hoth hHeld (g := w.heap.size + 1) (by omega) (by simp) (V (be z)).toArray
    refine hK.out _ _ hH2 (fun _ => ?_)
    clear hK K hHeld hH2
    refine wpAnyH_done (by kernel_rfl) ?_ _
    go_wp2_with fail
    exact bodyPost_ret (v := bv z) (results_cell_row rfl _ _ (w.heap.size + 1) 24 (V (be z)).toArray (0, 0) _ rfl GR.out.row Try.underlying24 rfl (sizeB _)) rfl ⟨by rw [HZ.out]; rfl, below_setRow BB.out (by omega) _⟩
  · rw [hs]
    replace HY := Lib.hid (HY.out.trans ht); clear hs ht
    refine wpAnyH_ready (rs := [5]) (by kernel_rfl) (by simp) (AllReadyH.cons rfl (fun K hK => ?_) AllReadyH.nil)
    go_simp
    rw [m_co]
    go_simp
    refine (co_impl _ _ y _).mono ?_
    rintro e v2 ⟨rfl, b1⟩
    rw [← HY.out]
    clear HY
    have s_v2 := b1.size
    have hHeld2 := hHeld.later b1 (by omega); clear hHeld
    replace GR := Lib.hid (GR.out.keep b1 GR.out.lt)
    replace BB := Lib.hid (BB.out.trans (b1.mono BB.out.size)); clear b1
    obtain ⟨z, hz⟩ : ∃ z, z = stF a b (x1, y1, p, q) := ⟨_, rfl⟩
    rw [← hz]
    have HZ := Lib.hid hz; clear hz
    go_wp2_with fail
    refine hK.out _ _ hHeld2 (fun hHeld => ?_)
    clear hK K hHeld2
    refine wpAnyH_ready (rs := [6]) (by kernel_rfl) (by simp) (AllReadyH.cons rfl (fun K hK => ?_) AllReadyH.nil)
    refine permOf.step_store_row rfl 24 (.tmp 6) (.tmp 24) rfl (w.heap.size + 1) (V (be z)).toArray rfl rfl 24 (V (be (0, 0, 0, 0))).toArray GR.out (sizeB _) (by simp [V, be]) (one_V _) ?_
    have hH2 := Hoth hHeld (g := w.heap.size + 1) (by omega) (by simp) (V (be z)).toArray
    refine hK.out _ _ hH2 (fun _ => ?_)
    clear hK K hHeld hH2
    refine wpAnyH_done (by kernel_rfl) ?_ _
    go_wp2_with fail
    exact bodyPost_ret (v := bv z) (results_cell_row rfl _ _ (w.heap.size + 1) 24 (V (be z)).toArray (0, 0) _ rfl GR.out.row Try.underlying24 rfl (sizeB _)) rfl ⟨by rw [HZ.out]; rfl, below_setRow BB.out (by omega) _⟩
end Go.Proofs.Ytajkfkpnjbkhhaa.bal
