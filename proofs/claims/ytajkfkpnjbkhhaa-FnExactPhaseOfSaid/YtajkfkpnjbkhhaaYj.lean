/-
  The program's corners (two sides), which side a ball is at, and its step.
-/
import Derived.Test.YtajkfkpnjbkhhaaYi
namespace Go.Proofs.Ytajkfkpnjbkhhaa.bal
open Go.ChangeShapes Go.WideShapes Go.ChangeAt Go.RowKit
open Go.Proofs.Ytajkfkpnjbkhhaa.mem Go.Proofs.Ytajkfkpnjbkhhaa.ints Go.Proofs.Ytajkfkpnjbkhhaa.arr Go.Proofs.Ytajkfkpnjbkhhaa.pm Go.Proofs.Ytajkfkpnjbkhhaa.permOk Go.Proofs.Ytajkfkpnjbkhhaa.sf
set_option linter.unusedVariables false
set_option maxRecDepth 100000
set_option linter.unusedSimpArgs false
theorem Hlow {base base' top : Nat} {w W : World} {bs : List (Nat × List Value)} (h : Hld base top w bs W) (hb : base' ≤ base) : Hld base' top w bs W := ⟨h.at_, h.below.mono hb, h.size⟩
theorem Hoth {base top : Nat} {w W : World} {bs : List (Nat × List Value)} (h : Hld base top w bs W) {g : Nat} (hg : base ≤ g) (hne : ∀ p ∈ bs, p.1 ≠ g) (cs : Array Value) : Hld base top w bs (W.setRow g cs) :=
  ⟨fun p hp => ⟨(h.at_ p hp).1, fun j v hv => by
    rw [World.cell?_of_block (w := W) (a := ⟨p.1, 0 + j, none⟩) (setRow_other W g p.1 cs (hne p hp))]
    exact (h.at_ p hp).2 j v hv⟩, below_setRow h.below hg _, by simpa using h.size⟩

set_option maxHeartbeats 4000000 in
theorem co_impl (u v : Int) (x : Bal) (w : World) : Calls Try.prog 62 #[.agg #[.int .i64 u, .int .i64 v], bv x] w fun e w' => e = .returned (bv (x.1, x.2.1, u, v)) ∧ Below w.heap.size w w' := by
  rw [bvV x]
  go_enter Try.func62, Try.ntmps62
  go_wp2_with fail
  generalize hw1 : ((w.alloc (.cells #[.int .i64 u, .int .i64 v] 58)).alloc _).alloc _ = w1
  have GC : Hid (Arr w1 w.heap.size [.int .i64 u, .int .i64 v] 58) := Lib.hid (by rw [← hw1]; exact ((Arr.new w [.int .i64 u, .int .i64 v] 58 rfl).alloc _).alloc _)
  have GX : Hid (Arr w1 (w.heap.size + 1) (V (be x)) 24) := Lib.hid (by rw [← hw1]; exact (Arr.new (w.alloc _) (V (be x)) 24 (by simp)).alloc _)
  have GR : Hid (Arr w1 (w.heap.size + 2) (V (be (0, 0, 0, 0))) 24) := Lib.hid (by rw [← hw1]; exact Arr.new _ (V (be (0, 0, 0, 0))) 24 (by simp))
  have BB : Hid (Below w.heap.size w w1) := Lib.hid (by rw [← hw1]; exact (((Below.refl _ _).alloc (Nat.le_refl _) _).alloc (by simp) _).alloc (by simp; omega) _)
  clear hw1
  have s_b := BB.out.size
  refine wp_region_held_drew (S := Hld w.heap.size w1.heap.size w1 [(w.heap.size, [.int .i64 u, .int .i64 v]), ((w.heap.size + 1), V (be x))]) (by kernel_rfl) (Hlow (start_allB (fun p hp => by simp only [List.mem_cons, List.not_mem_nil, or_false] at hp; rcases hp with rfl | rfl <;> first | exact ⟨_, GC.out⟩ | exact ⟨_, GX.out⟩)) (by have := BB.out.size; omega)) (fun hHeld => ?_)
  have RGC : Hid (∀ W, Hld w.heap.size w1.heap.size w1 [(w.heap.size, [.int .i64 u, .int .i64 v]), ((w.heap.size + 1), V (be x))] W → W.rangeAt w.heap.size 0 ([.int .i64 u, .int .i64 v])) := Lib.hid (fun W h => (h.at_ (w.heap.size, [.int .i64 u, .int .i64 v]) (by simp)).2)
  have RGX : Hid (∀ W, Hld w.heap.size w1.heap.size w1 [(w.heap.size, [.int .i64 u, .int .i64 v]), ((w.heap.size + 1), V (be x))] W → W.rangeAt (w.heap.size + 1) 0 (V (be x))) := Lib.hid (fun W h => (h.at_ ((w.heap.size + 1), V (be x)) (by simp)).2)
  have b1 : Below w1.heap.size w1 w1.drew := ⟨rfl, rfl, rfl, Nat.le_refl _, fun _ _ => rfl⟩
  generalize w1.drew = v0 at *
  have s_v0 := b1.size
  replace GR := Lib.hid (GR.out.keep b1 GR.out.lt)
  replace BB := Lib.hid (BB.out.trans (b1.mono BB.out.size)); clear b1
  refine wpAnyH_take (i := 0) (v := .pointer (some ⟨w.heap.size, 1, none⟩)) rfl (by kernel_rfl) (by kernel_rfl) (by kernel_rfl) (fun _ _ _ h => h) (Or.inl ⟨by kernel_rfl, fun w hSw => by go_simp⟩) hHeld ?_
  refine wpAnyH_take (i := 1) (v := .int .i64 v) rfl (by kernel_rfl) (by kernel_rfl) (by kernel_rfl) (fun _ _ _ h => h) (Or.inl ⟨by kernel_rfl, fun w hSw => by have hc := RGC.out _ hSw 1 (.int .i64 v) rfl; go_simp⟩) hHeld ?_
  refine wpAnyH_take (i := 2) (v := .pointer (some ⟨w.heap.size, 0, none⟩)) rfl (by kernel_rfl) (by kernel_rfl) (by kernel_rfl) (fun _ _ _ h => h) (Or.inl ⟨by kernel_rfl, fun w hSw => by go_simp⟩) hHeld ?_
  refine wpAnyH_take (i := 3) (v := .int .i64 u) rfl (by kernel_rfl) (by kernel_rfl) (by kernel_rfl) (fun _ _ _ h => h) (Or.inl ⟨by kernel_rfl, fun w hSw => by have hc := RGC.out _ hSw 0 (.int .i64 u) rfl; go_simp⟩) hHeld ?_
  refine wpAnyH_take (i := 4) (v := .agg (V (be x)).toArray) rfl (by kernel_rfl) (by kernel_rfl) (by kernel_rfl) (fun _ _ _ h => h) (yieldsIf_load_mid (by kernel_rfl) 24 (.tmp 3) rfl (w.heap.size + 1) 0 (by kernel_rfl) (V (be x)) _ (fun W h => RGX.out W h) Try.underlying24 rfl (by have := sizeB x; rwa [List.size_toArray] at this)) hHeld ?_
  dsimp only [List.append, List.getElem_toArray, List.getElem_cons_zero, List.getElem_cons_succ, Act.put]
  try simp only [List.setIfInBounds_toArray, List.set_cons_zero, List.set_cons_succ]
  refine wpAnyH_ready (rs := [5]) (by kernel_rfl) (by simp) (AllReadyH.cons rfl (fun K hK => ?_) AllReadyH.nil)
  go_simp
  rw [← bvV x]
  refine (up_impl u x _).mono ?_
  rintro e v1 ⟨rfl, b1⟩
  have s_v1 := b1.size
  have hHeld2 := hHeld.later b1 (by have := hHeld.size; have := BB.out.size; omega); clear hHeld
  replace GR := Lib.hid (GR.out.keep b1 GR.out.lt)
  replace BB := Lib.hid (BB.out.trans (b1.mono BB.out.size)); clear b1
  go_wp2_with fail
  refine hK.out _ _ hHeld2 (fun hHeld => ?_)
  clear hK K hHeld2
  refine wpAnyH_ready (rs := [6]) (by kernel_rfl) (by simp) (AllReadyH.cons rfl (fun K hK => ?_) AllReadyH.nil)
  go_simp
  refine (lv_impl v _ _).mono ?_
  rintro e v2 ⟨rfl, b1⟩
  have s_v2 := b1.size
  have hHeld2 := hHeld.later b1 (by have := hHeld.size; have := BB.out.size; omega); clear hHeld
  replace GR := Lib.hid (GR.out.keep b1 GR.out.lt)
  replace BB := Lib.hid (BB.out.trans (b1.mono BB.out.size)); clear b1
  go_wp2_with fail
  refine hK.out _ _ hHeld2 (fun hHeld => ?_)
  clear hK K hHeld2
  refine wpAnyH_ready (rs := [7]) (by kernel_rfl) (by simp) (AllReadyH.cons rfl (fun K hK => ?_) AllReadyH.nil)
  refine permOf.step_store_row rfl 24 (.tmp 4) (.tmp 11) rfl (w.heap.size + 2) (V (be (x.1, x.2.1, u, v))).toArray rfl rfl 24 (V (be (0, 0, 0, 0))).toArray GR.out (sizeB _) (by simp [V, be]) (one_V _) ?_
  have hH2 := Hoth hHeld (g := w.heap.size + 2) (by omega) (by simp) (V (be (x.1, x.2.1, u, v))).toArray
  refine hK.out _ _ hH2 (fun _ => ?_)
  clear hK K hHeld hH2
  refine wpAnyH_done (by kernel_rfl) ?_ _
  go_wp2_with fail
  exact bodyPost_ret (v := bv (x.1, x.2.1, u, v)) (results_cell_row rfl _ _ (w.heap.size + 2) 24 (V (be (x.1, x.2.1, u, v))).toArray (0, 0) _ rfl GR.out.row Try.underlying24 rfl (sizeB _)) rfl ⟨rfl, below_setRow BB.out (by omega) _⟩
/-- Which side a ball is at, as the program holds it. -/
def sdU (u v : Int) : Value := if u = 0 then (if v = 0 then .iface 66 (.agg #[]) else .iface 56 (.int .i64 v)) else if v = 0 then .iface 55 (.int .i64 u) else .iface 58 (.agg #[.int .i64 u, .int .i64 v])
def sdV (a b : Int) (x : Bal) : Value := sdU (inF x.1 a) (inF x.2.1 b)
def trU (u v : Int) (x : Bal) : Bal := (x.1, x.2.1, if u = 0 then x.2.2.1 else u, if v = 0 then x.2.2.2 else v)
def trF (a b : Int) (x : Bal) : Bal := trU (inF x.1 a) (inF x.2.1 b) x
set_option maxHeartbeats 4000000 in
theorem sd_impl (a b : Int) (x : Bal) (w : World) : Calls Try.prog 36 #[.int .i64 a, .int .i64 b, bv x] w fun e w' => e = .returned (sdV a b x) ∧ Below w.heap.size w w' := by
  obtain ⟨u, hu⟩ : ∃ u, u = inF x.1 a := ⟨_, rfl⟩
  obtain ⟨v, hv⟩ : ∃ v, v = inF x.2.1 b := ⟨_, rfl⟩
  have HS : Hid (sdV a b x = sdU u v) := Lib.hid (by unfold sdV; rw [hu, hv])
  have IU := Lib.hid (fun w => hu ▸ inw_impl x.1 a w)
  have IV := Lib.hid (fun w => hv ▸ inw_impl x.2.1 b w)
  clear hu hv
  rw [bvV x]
  go_enter Try.func36, Try.ntmps36
  go_wp2_with fail
  generalize hw1 : w.alloc _ = w1
  have GX : Hid (Arr w1 w.heap.size (V (be x)) 24) := Lib.hid (by rw [← hw1]; exact Arr.new w (V (be x)) 24 rfl)
  have BB : Hid (Below w.heap.size w w1) := Lib.hid (by rw [← hw1]; exact (Below.refl _ _).alloc (Nat.le_refl _) _)
  clear hw1
  have s_b := BB.out.size
  refine wp_region_held_drew (S := Hld w.heap.size w1.heap.size w1 [(w.heap.size, V (be x))]) (by kernel_rfl) (Hlow (start_allB (fun p hp => by simp only [List.mem_cons, List.not_mem_nil, or_false] at hp; subst hp; exact ⟨_, GX.out⟩)) (by have := BB.out.size; omega)) (fun hHeld => ?_)
  have RGX : Hid (∀ W, Hld w.heap.size w1.heap.size w1 [(w.heap.size, V (be x))] W → W.rangeAt w.heap.size 0 (V (be x))) := Lib.hid (fun W h => (h.at_ (w.heap.size, V (be x)) (by simp)).2)
  have b1 : Below w1.heap.size w1 w1.drew := ⟨rfl, rfl, rfl, Nat.le_refl _, fun _ _ => rfl⟩
  generalize w1.drew = v0 at *
  have s_v0 := b1.size
  replace BB := Lib.hid (BB.out.trans (b1.mono BB.out.size)); clear b1
  refine wpAnyH_take (i := 0) (v := .pointer (some ⟨w.heap.size, 0, none⟩)) rfl (by kernel_rfl) (by kernel_rfl) (by kernel_rfl) (fun _ _ _ h => h) (Or.inl ⟨by kernel_rfl, fun w hSw => by go_simp⟩) hHeld ?_
  refine wpAnyH_take (i := 1) (v := .int .i64 x.1) rfl (by kernel_rfl) (by kernel_rfl) (by kernel_rfl) (fun _ _ _ h => h) (Or.inl ⟨by kernel_rfl, fun w hSw => by have hc := RGX.out _ hSw 0 (.int .i64 x.1) rfl; go_simp⟩) hHeld ?_
  refine wpAnyH_take (i := 2) (v := .int .i64 a) rfl (by kernel_rfl) (by kernel_rfl) (by kernel_rfl) (fun _ _ _ h => h) (Or.inl ⟨by kernel_rfl, fun w hSw => by go_simp⟩) hHeld ?_
  refine wpAnyH_take (i := 4) (v := .pointer (some ⟨w.heap.size, 1, none⟩)) rfl (by kernel_rfl) (by kernel_rfl) (by kernel_rfl) (fun _ _ _ h => h) (Or.inl ⟨by kernel_rfl, fun w hSw => by go_simp⟩) hHeld ?_
  refine wpAnyH_take (i := 5) (v := .int .i64 x.2.1) rfl (by kernel_rfl) (by kernel_rfl) (by kernel_rfl) (fun _ _ _ h => h) (Or.inl ⟨by kernel_rfl, fun w hSw => by have hc := RGX.out _ hSw 1 (.int .i64 x.2.1) rfl; go_simp⟩) hHeld ?_
  refine wpAnyH_take (i := 6) (v := .int .i64 b) rfl (by kernel_rfl) (by kernel_rfl) (by kernel_rfl) (fun _ _ _ h => h) (Or.inl ⟨by kernel_rfl, fun w hSw => by go_simp⟩) hHeld ?_
  dsimp only [List.append, List.getElem_toArray, List.getElem_cons_zero, List.getElem_cons_succ, Act.put]
  try simp only [List.setIfInBounds_toArray, List.set_cons_zero, List.set_cons_succ]
  refine wpAnyH_ready (rs := [3]) (by kernel_rfl) (by simp) (AllReadyH.cons rfl (fun K hK => ?_) AllReadyH.nil)
  go_simp
  refine (IU.out _).mono ?_
  rintro e w' ⟨rfl, rfl⟩
  go_wp2_with fail
  refine hK.out _ _ hHeld (fun hHeld => ?_)
  clear hK K
  refine wpAnyH_ready (rs := [7]) (by kernel_rfl) (by simp) (AllReadyH.cons rfl (fun K hK => ?_) AllReadyH.nil)
  go_simp
  refine (IV.out _).mono ?_
  rintro e w' ⟨rfl, rfl⟩
  go_wp2_with fail
  refine hK.out _ _ hHeld (fun hHeld => ?_)
  clear hK K
  refine wpAnyH_take (i := 8) (v := .int .i64 u) rfl (by kernel_rfl) (by kernel_rfl) (by kernel_rfl) (fun _ _ _ h => h) (Or.inl ⟨by kernel_rfl, fun w hSw => by go_simp⟩) hHeld ?_
  refine wpAnyH_take (i := 9) (v := .int .i64 v) rfl (by kernel_rfl) (by kernel_rfl) (by kernel_rfl) (fun _ _ _ h => h) (Or.inl ⟨by kernel_rfl, fun w hSw => by go_simp⟩) hHeld ?_
  refine wpAnyH_done (by kernel_rfl) ?_ _
  dsimp only [List.append, List.getElem_toArray, List.getElem_cons_zero, List.getElem_cons_succ, Act.put]
  try simp only [List.setIfInBounds_toArray, List.set_cons_zero, List.set_cons_succ]
  clear hHeld RGX IU IV GX
  by_cases u0 : u = 0
  · subst u
    by_cases v0' : v = 0
    · subst v
      have HR : Hid (sdU 0 0 = .iface 66 (.agg #[])) := Lib.hid rfl
      go_wp2_with fail
      go_ret
      exact ⟨by rw [HS.out, HR.out]; rfl, BB.out⟩
    · have v1 : (v == 0) = false := by simp [v0']
      have HR : Hid (sdU 0 v = .iface 56 (.int .i64 v)) := Lib.hid (by simp [sdU, v0'])
      go_wp2_with fail
      go_ret
      exact ⟨by rw [HS.out, HR.out]; rfl, BB.out⟩
  · have u1 : (u == 0) = false := by simp [u0]
    by_cases v0' : v = 0
    · subst v
      have HR : Hid (sdU u 0 = .iface 55 (.int .i64 u)) := Lib.hid (by simp [sdU, u0])
      go_wp2_with fail
      go_ret
      exact ⟨by rw [HS.out, HR.out]; rfl, BB.out⟩
    · have v1 : (v == 0) = false := by simp [v0']
      have uv : (u != 0 && v != 0) = true := by simp [u0, v0']
      have HR : Hid (sdU u v = .iface 58 (.agg #[.int .i64 u, .int .i64 v])) := Lib.hid (by simp [sdU, u0, v0'])
      go_wp2_with fail
      go_ret
      exact ⟨by rw [HS.out, HR.out]; rfl, BB.out⟩
end Go.Proofs.Ytajkfkpnjbkhhaa.bal
