/-
  The model's names and renaming of a surface; NamesFrom and RenameSurface, of the model and of the program.
-/
import Derived.Test.YtabiakcndddmkaaGn
namespace Go.Proofs.Ytabiakcndddmkaa.gl
open Go.ChangeShapes Go.WideShapes Go.ChangeAt Go.RowKit
open Go.Proofs.Ytabiakcndddmkaa.mem Go.Proofs.Ytabiakcndddmkaa.ints Go.Proofs.Ytabiakcndddmkaa.arr Go.Proofs.Ytabiakcndddmkaa.pm Go.Proofs.Ytabiakcndddmkaa.permOk Go.Proofs.Ytabiakcndddmkaa.permOf Go.Proofs.Ytabiakcndddmkaa.inv Go.Proofs.Ytabiakcndddmkaa.fns Go.Proofs.Ytabiakcndddmkaa.sf
set_option linter.unusedVariables false
set_option maxRecDepth 100000

theorem gives_rows {r : List Int} {w w' : World} {v : Value} (h : w'.ownsRow w.heap.size 3 1 v r.length (V r)) : ∃ P c, v = .slice P r.length c ∧ Row w' w.heap.size w'.heap.size P r.length (V r) ∧ r.length ≤ c := by
  obtain ⟨P, c, rfl⟩ := own_form h
  exact ⟨P, c, rfl, Row.of_own h, (own_cap h).2⟩

set_option maxHeartbeats 1000000 in
theorem names_spec (v : Value) (r u : List Int) (n : Nat) (f : Int) (hi : Nat) (w : World) (hx : Srd w hi v r u) (s : Sf n r u) (f0 : 0 ≤ f) (f1 : f < n) :
    Calls Try.prog 32 #[v, .int .i64 f] w (Gives (nm r u f) w) := by
  have lr := s.lr; have lu := s.lu
  have hn := s.r.len
  have HS := Lib.hid s
  have HF := Lib.hid (s.flen f0 f1)
  obtain ⟨P, n1, c, Q, m1, d, rfl, q1, q2, e1, e2, ht, HR⟩ := hx.open
  clear hx s
  go_enter Try.func32, Try.ntmps32
  go_wp2_with fail
  refine (reach_any P n1 c Q m1 d r u f _ _ _ (HR.out _).1 (HR.out _).2 HS.out.r HS.out.u (by omega) f0 (by omega)).mono ?_
  rintro e w1 ⟨v1, rfl, o1, b1⟩
  obtain ⟨P1, c1, rfl, R1, _⟩ := gives_rows o1
  have B1 := Lib.hid (below1 _ _ b1); clear b1 o1
  have RR := Lib.hid R1; clear R1
  go_wp2_with fail
  refine (l02inv_any P1 _ c1 (reach r u f) _ _ RR.out.rd (HS.out.rok f0 f1)).mono ?_
  rintro e w2 hg
  have hg2 := gives_later B1.out hg
  have HG : Hid (Gives (nm r u f) w e w2) := Lib.hid hg2
  clear hg hg2
  obtain ⟨v2, rfl, ho, hb⟩ := HG.out
  have HO := Lib.hid ho; have HB := Lib.hid hb; clear ho hb HG
  go_wp2_with fail
  go_ret
  exact ⟨v2, rfl, HO.out, HB.out⟩

set_option maxHeartbeats 4000000 in
theorem rename_spec (v : Value) (r u : List Int) (A : Option Addr) (a c0 : Nat) (ns : List Int) (n : Nat) (hi h2 : Nat) (w : World) (hx : Srd w hi v r u) (hy : Rd w h2 A a (V ns)) (s : Sf n r u) (okn : Ok ns) (ln : ns.length = n) :
    Calls Try.prog 31 #[v, .slice A a c0] w fun e w' => ∃ g, e = .returned g ∧ Svl w' w.heap.size w'.heap.size g (renTo n r ns n) (renTo n u ns n) ∧ Below w.heap.size w w' := by
  have lr := s.lr; have lu := s.lu
  have la : ns.length = a := by simpa [V] using hy.1
  have HX := Lib.hid hx; have HY := Lib.hid hy
  have HS := Lib.hid s; have HN := Lib.hid okn
  obtain ⟨P, n1, c, Q, m1, d, rfl, q1, q2, e1, e2, ht, HR⟩ := hx.open
  have h2' := hy.2.1
  clear hx hy s okn
  go_enter Try.func31, Try.ntmps31
  go_wp2_with fail
  generalize hw1 : (w.alloc (.cells #[.slice P n1 c, .slice Q m1 d] 27)).alloc (.cells #[.slice none 0 0, .slice none 0 0] 27) = w1
  have A0 : Hid (Arr w1 w.heap.size [.slice P n1 c, .slice Q m1 d] 27) := Lib.hid (by rw [← hw1]; exact (Arr.new w _ _ rfl).alloc _)
  have A1 : Hid (Arr w1 (w.heap.size + 1) [.slice none 0 0, .slice none 0 0] 27) := Lib.hid (by rw [← hw1]; exact Arr.new _ _ _ (by simp))
  have B1 : Hid (Below w.heap.size w w1) := Lib.hid (by rw [← hw1]; exact ((Below.refl _ _).alloc (Nat.le_refl _) _).alloc (by simp) _)
  have s1 : w1.heap.size = w.heap.size + 2 := by rw [← hw1]; simp
  clear hw1
  refine wp_region_held_drew (S := Hld w.heap.size w1.heap.size w1 [(w.heap.size, [.slice P n1 c, .slice Q m1 d])]) (by kernel_rfl) ((Hld.start1 A0.out).lower (by omega)) (fun hHeld => ?_)
  have b1 : Below w1.heap.size w1 w1.drew := ⟨rfl, rfl, rfl, Nat.le_refl _, fun _ _ => rfl⟩
  generalize w1.drew = w2 at *
  have s2 := b1.size
  replace A1 := Lib.hid (A1.out.keep b1 A1.out.lt)
  replace B1 := Lib.hid (B1.out.trans (b1.mono B1.out.size))
  clear b1 A0
  refine wpAnyH_take (i := 0) (v := .pointer (some ⟨w.heap.size, 0, none⟩)) rfl (by kernel_rfl) (by kernel_rfl) (by kernel_rfl) (fun _ _ _ h => h) (Or.inl ⟨by rfl, fun w hSw => by go_simp⟩) hHeld ?_
  refine wpAnyH_take (i := 4) (v := .pointer (some ⟨w.heap.size, 1, none⟩)) rfl (by kernel_rfl) (by kernel_rfl) (by kernel_rfl) (fun _ _ _ h => h) (Or.inl ⟨by rfl, fun w hSw => by go_simp⟩) hHeld ?_
  refine wpAnyH_take (i := 1) (v := .slice P n1 c) rfl (by kernel_rfl) (by kernel_rfl) (by kernel_rfl) (fun _ _ _ h => h) (Or.inl ⟨by rfl, fun w hSw => by have := hSw.fst 0 _ rfl; go_simp⟩) hHeld ?_
  refine wpAnyH_take (i := 5) (v := .slice Q m1 d) rfl (by kernel_rfl) (by kernel_rfl) (by kernel_rfl) (fun _ _ _ h => h) (Or.inl ⟨by rfl, fun w hSw => by have := hSw.fst 1 _ rfl; go_simp⟩) hHeld ?_
  refine wpAnyH_take (i := 2) (v := .slice A a c0) rfl (by kernel_rfl) (by kernel_rfl) (by kernel_rfl) (fun _ _ _ h => h) (Or.inl ⟨by rfl, fun w hSw => by go_simp⟩) hHeld ?_
  refine wpAnyH_take (i := 6) (v := .slice A a c0) rfl (by kernel_rfl) (by kernel_rfl) (by kernel_rfl) (fun _ _ _ h => h) (Or.inl ⟨by rfl, fun w hSw => by go_simp⟩) hHeld ?_
  refine wpAnyH_ready (rs := [3]) (by kernel_rfl) (by simp) (AllReadyH.cons rfl (fun K hK => ?_) AllReadyH.nil)
  go_simp
  refine (l02ren_any P n1 c A a c0 r ns hi h2 _ (Srd.fst (HX.out.keep (B1.out.mono ht) (Nat.le_refl _))) (HY.out.keep (B1.out.mono h2') (Nat.le_refl _)) HS.out.r HN.out (by omega)).mono ?_
  rintro e w3 ⟨v1, rfl, o1, b1⟩
  obtain ⟨P1, c1, rfl, r1, C1⟩ := gives_rows o1
  have s3 := b1.size
  have R1 := Lib.hid r1; clear r1 o1
  replace A1 := Lib.hid (A1.out.keep b1 A1.out.lt)
  replace B1 := Lib.hid (B1.out.trans (b1.mono B1.out.size))
  go_wp2_with fail
  have hHeld2 := hHeld.later b1 (by omega); clear b1 hHeld
  refine hK.out _ _ hHeld2 (fun hHeld => ?_)
  clear hK K hHeld2
  refine wpAnyH_ready (rs := [7]) (by kernel_rfl) (by simp) (AllReadyH.cons rfl (fun K hK => ?_) AllReadyH.nil)
  go_simp
  refine (l02ren_any Q m1 d A a c0 u ns hi h2 _ (Srd.snd (HX.out.keep (B1.out.mono ht) (Nat.le_refl _))) (HY.out.keep (B1.out.mono h2') (Nat.le_refl _)) HS.out.u HN.out (by omega)).mono ?_
  rintro e w4 ⟨v2, rfl, o2, b1⟩
  obtain ⟨P2, c2, rfl, r2, C2⟩ := gives_rows o2
  have s4 := b1.size
  have R2 := Lib.hid r2; clear r2 o2
  replace A1 := Lib.hid (A1.out.keep b1 A1.out.lt)
  replace R1 := Lib.hid (R1.out.keep b1 R1.out.2.1)
  replace B1 := Lib.hid (B1.out.trans (b1.mono B1.out.size))
  go_wp2_with fail
  have hHeld2 := hHeld.later b1 (by omega); clear b1 hHeld
  refine hK.out _ _ hHeld2 (fun hHeld => ?_)
  clear hK K hHeld2
  refine wpAnyH_ready (rs := [8]) (by kernel_rfl) (by simp) (AllReadyH.cons rfl (fun K hK => ?_) AllReadyH.nil)
  go_simp
  refine hK.out _ _ hHeld (fun hHeld2 => ?_)
  clear hK K hHeld2
  refine wpAnyH_ready (rs := [9]) (by kernel_rfl) (by simp) (AllReadyH.cons rfl (fun K hK => ?_) AllReadyH.nil)
  obtain rfl : n1 = n := by omega
  obtain rfl : m1 = n1 := by omega
  have z1 : (renTo m1 r ns m1).length = m1 := renTo_len _ _ _ _
  have z2 : (renTo m1 u ns m1).length = m1 := renTo_len _ _ _ _
  rw [z1] at R1 C1; rw [z2] at R2 C2
  refine step_store_row rfl 27 _ _ rfl (w.heap.size + 1) #[.slice P1 m1 c1, .slice P2 m1 c2] rfl (by simp [go_sem, z1, z2]) 27 #[.slice none 0 0, .slice none 0 0] A1.out size2 rfl (by simp [Value.oneCell']) ?_
  refine hK.out _ _ (hHeld.other (by omega) (by simp) _) (fun hHeld2 => ?_)
  clear hK K hHeld2
  refine wpAnyH_done (by kernel_rfl) ?_ _
  go_wp2_with fail
  refine bodyPost_ret (v := .agg #[.slice P1 m1 c1, .slice P2 m1 c2]) (results_cell_row rfl _ _ (w.heap.size + 1) 27 #[.slice P1 m1 c1, .slice P2 m1 c2] (0, 0) _ rfl A1.out.row Try.underlying27 rfl size2) rfl ⟨_, rfl, ?_, below_setRow B1.out (by omega) _⟩
  have oo : Out w.heap.size w2.heap.size w4 (w4.setRow (w.heap.size + 1) #[.slice P1 m1 c1, .slice P2 m1 c2]) := (Out.refl _ _ _).row_ (by omega) (by omega) _
  exact ⟨P1, m1, c1, P2, m1, c2, w2.heap.size, w3.heap.size, w3.heap.size, w4.heap.size, rfl, R1.out.out oo (.inr (by omega)), R2.out.out oo (.inr (by omega)), C1, C2, by omega, by have := oo.size; omega, by omega, by have := oo.size; omega, .inl (Nat.le_refl _), Nat.le_refl _⟩
end Go.Proofs.Ytabiakcndddmkaa.gl
