/-
  The shear of the model.
-/
import Derived.Test.YtabiakcndddmkaaMA
import Derived.Test.YtabiakcndddmkaaMD
import Derived.Test.YtabiakcndddmkaaAr
import Derived.Deep.AppendLies
namespace Go.Proofs.Ytabiakcndddmkaa.mk
open Go.ChangeShapes Go.WideShapes Go.ChangeAt Go.RowKit
open Go.Proofs.Ytabiakcndddmkaa.mem Go.Proofs.Ytabiakcndddmkaa.ints Go.Proofs.Ytabiakcndddmkaa.arr Go.Proofs.Ytabiakcndddmkaa.pm Go.Proofs.Ytabiakcndddmkaa.permOk Go.Proofs.Ytabiakcndddmkaa.permOf Go.Proofs.Ytabiakcndddmkaa.inv Go.Proofs.Ytabiakcndddmkaa.fns Go.Proofs.Ytabiakcndddmkaa.sf Go.Proofs.Ytabiakcndddmkaa.gl
set_option linter.unusedVariables false
set_option maxRecDepth 100000
theorem Hld.later2 {base top B : Nat} {w W W' : World} {bs : List (Nat × List Value)} (h : Hld base top w bs W) (hB : Below B W W') (hb : base ≤ B) (ht : top ≤ B) : Hld base top w bs W' :=
  ⟨fun p hp => ⟨(h.at_ p hp).1, fun j v hv => by rw [hB.cell (p := ⟨p.1, 0 + j, none⟩) (show p.1 < _ from Nat.lt_of_lt_of_le (h.at_ p hp).1 ht)]; exact (h.at_ p hp).2 j v hv⟩,
    h.below.trans (hB.mono hb), Nat.le_trans h.size hB.size⟩
theorem built_two (P Q : Option Addr) (n c m d : Nat) : Try.prog.built 27 [(0, .slice P n c), (1, .slice Q m d)] = some #[.slice P n c, .slice Q m d] := by kernel_rfl
set_option maxHeartbeats 4000000 in
theorem shear_any (v : Value) (r u : List Int) (N hi : Nat) (w : World) (hx : Srd w hi v r u) (hs : Sf N r u) :
    Calls Try.prog 44 #[v] w fun e w' => ∃ g, e = .returned g ∧ Svl w' w.heap.size w'.heap.size g r (thn (Inv r) u) ∧ Below w.heap.size w w' := by
  obtain ⟨i0, hi0, hz0, hz1, hz2⟩ := info_parts infoI
  have HX := Lib.hid hx; clear hx
  have HS := Lib.hid hs; clear hs
  obtain ⟨P, n, c, Q, m, d, rfl, q1, q2, e1, e2, ht, HR⟩ := HX.out.open
  have RU : Hid (r.length = u.length) := Lib.hid (by rw [HS.out.lr, HS.out.lu])
  obtain rfl : n = N := by rw [← q1]; exact HS.out.lr
  have hN24 : n ≤ 24 := by have := HS.out.r.len; rw [HS.out.lr] at this; omega
  have hN0 : 0 < n := HS.out.pos
  have Q1 := Lib.hid q1; have Q2 := Lib.hid q2; clear q1 q2
  clear HR
  go_enter Try.func44, Try.ntmps44
  go_wp2_with fail
  have A0 := Lib.hid ((Arr.new w [.slice P n c, .slice Q m d] 27 rfl).alloc (.cells #[.slice none 0 0, .slice none 0 0] 27))
  have A1 := Lib.hid (Arr.new (w.alloc (.cells #[.slice P n c, .slice Q m d] 27)) [.slice none 0 0, .slice none 0 0] 27 rfl)
  have B1 := Lib.hid (((Below.refl w.heap.size w).alloc (Nat.le_refl _) (.cells #[.slice P n c, .slice Q m d] 27)).alloc (by simp) (.cells #[.slice none 0 0, .slice none 0 0] 27))
  have es : ((w.alloc (.cells #[.slice P n c, .slice Q m d] 27)).alloc (.cells #[.slice none 0 0, .slice none 0 0] 27)).heap.size = w.heap.size + 2 := by simp
  rw [show (w.alloc (.cells #[.slice P n c, .slice Q m d] 27)).heap.size = w.heap.size + 1 by simp] at A1
  have X1 : Hid (Srd ((w.alloc (.cells #[.slice P n c, .slice Q m d] 27)).alloc (.cells #[.slice none 0 0, .slice none 0 0] 27)) hi (.agg #[.slice P n c, .slice Q m d]) r u) := Lib.hid (HX.out.keep (B1.out.mono ht) (Nat.le_refl _))
  generalize (w.alloc (.cells #[.slice P n c, .slice Q m d] 27)).alloc (.cells #[.slice none 0 0, .slice none 0 0] 27) = w1 at *
  refine wp_region_held_drew (S := Hld (w.heap.size + 1) w1.heap.size w1 [(w.heap.size, [.slice P n c, .slice Q m d])]) (by kernel_rfl) ((Hld.start1 A0.out).lower (by omega)) (fun hHeld => ?_)
  have b1 : Below w1.heap.size w1 w1.drew := ⟨rfl, rfl, rfl, Nat.le_refl _, fun _ _ => rfl⟩
  generalize w1.drew = w2 at *
  have s2 := b1.size; replace X1 := Lib.hid (X1.out.keep b1 X1.out.top); replace B1 := Lib.hid (B1.out.trans (b1.mono B1.out.size))
  replace A1 := Lib.hid (A1.out.keep b1 A1.out.lt); clear b1 A0
  refine wpAnyH_take (i := 1) (v := .pointer (some ⟨w.heap.size, 0, none⟩)) rfl (by kernel_rfl) (by kernel_rfl) (by kernel_rfl) (fun _ _ _ h => h) (Or.inl ⟨by rfl, fun w hSw => by go_simp⟩) hHeld ?_
  refine wpAnyH_take (i := 4) (v := .pointer (some ⟨w.heap.size, 0, none⟩)) rfl (by kernel_rfl) (by kernel_rfl) (by kernel_rfl) (fun _ _ _ h => h) (Or.inl ⟨by rfl, fun w hSw => by go_simp⟩) hHeld ?_
  refine wpAnyH_take (i := 7) (v := .pointer (some ⟨w.heap.size, 1, none⟩)) rfl (by kernel_rfl) (by kernel_rfl) (by kernel_rfl) (fun _ _ _ h => h) (Or.inl ⟨by rfl, fun w hSw => by go_simp⟩) hHeld ?_
  refine wpAnyH_take (i := 2) (v := .slice P n c) rfl (by kernel_rfl) (by kernel_rfl) (by kernel_rfl) (fun _ _ _ h => h) (Or.inl ⟨by rfl, fun w hSw => by have := hSw.c0; go_simp⟩) hHeld ?_
  refine wpAnyH_take (i := 5) (v := .slice P n c) rfl (by kernel_rfl) (by kernel_rfl) (by kernel_rfl) (fun _ _ _ h => h) (Or.inl ⟨by rfl, fun w hSw => by have := hSw.c0; go_simp⟩) hHeld ?_
  refine wpAnyH_take (i := 8) (v := .slice Q m d) rfl (by kernel_rfl) (by kernel_rfl) (by kernel_rfl) (fun _ _ _ h => h) (Or.inl ⟨by rfl, fun w hSw => by have := hSw.c1; go_simp⟩) hHeld ?_
  refine wpAnyH_ready (rs := [0]) (by kernel_rfl) (by simp) (AllReadyH.cons rfl (fun K hK => ?_) AllReadyH.nil)
  go_simp
  have b1 : Below w2.heap.size w2 (w2.alloc (.cells #[] 3)) := (Below.refl _ _).alloc (Nat.le_refl _) _
  have o3 := (Grows.empty w2).own
  have hHeld2 := hHeld.later b1 (by omega); clear hHeld
  have s_ := b1.size; replace X1 := Lib.hid (X1.out.keep b1 X1.out.top); replace B1 := Lib.hid (B1.out.trans (b1.mono B1.out.size))
  replace A1 := Lib.hid (A1.out.keep b1 A1.out.lt); clear b1
  refine hK.out _ _ hHeld2 (fun hHeld => ?_)
  clear hK K hHeld2
  generalize w2.alloc (.cells #[] 3) = w3 at *
  have O3 := Lib.hid o3; clear o3
  refine wpAnyH_ready (rs := [3]) (by kernel_rfl) (by simp) (AllReadyH.cons rfl (fun K hK => ?_) AllReadyH.nil)
  obtain ⟨P0, o0, rfl⟩ : ∃ g o, P = some ⟨g, o, none⟩ := by
    obtain ⟨g, off, q, _⟩ := (Srd.fst X1.out).2.2 hN0
    exact ⟨g, off, q⟩
  have hnews : ∀ (j : Nat) (q : Value), (V r)[j]? = some q → w3.cell? ((⟨P0, o0, none⟩ : Addr).add j) = some q := fun j q hq => by
    have hj : j < n := by have := (List.getElem?_eq_some_iff.1 hq).1; rw [V_len, Q1.out] at this; exact this
    obtain ⟨g, off, u', e, _, h1, h2⟩ := (Srd.fst X1.out).at_ hj
    injection e with e; injection e with e1 e2 e3
    subst e1; subst e2
    rw [h1] at hq
    have : (⟨P0, o0, none⟩ : Addr).add j = ⟨P0, o0 + j, none⟩ := by simp [Addr.add]
    rw [this, h2, ← hq]
  have hws : w2.heap.size ≤ w3.heap.size := s_
  refine step_append_lies w3 rfl _ _ 22 rfl w2.heap.size 3 i0 _ 1 8 Try.underlying22 hi0 hz0 hz1 hz2 rfl (by decide) _ 0 [] rfl O3.out ⟨P0, o0, none⟩ n c (V r) rfl (by rw [V_len, Q1.out, Nat.mul_one]) hnews (fun q hq => by obtain ⟨z, _, rfl⟩ := List.mem_map.1 hq; rfl) hN0 (by unfold maxLen; omega) (by omega) hws _ rfl ?_
  intro g3 c3 w4 ho hg hat hlt
  clear hnews
  have b1 : Below w2.heap.size w3 w4 := own_below O3.out hg (Nat.le_refl _) hws
  have hw2 : w.heap.size ≤ w2.heap.size := by omega
  rw [Nat.zero_add, List.nil_append] at ho
  rw [Nat.zero_add]
  have hHeld2 := Hld.later2 hHeld b1 (by omega) (by omega); clear hHeld
  replace X1 := Lib.hid (X1.out.keep (b1.mono (by have := X1.out.top; have := HX.out.top; omega)) (Nat.le_refl _))
  replace B1 := Lib.hid (B1.out.trans (b1.mono hw2))
  replace A1 := Lib.hid (A1.out.keep b1 (by omega))
  have R4 := Lib.hid (Row.of_own ho)
  have hc3 := (own_cap ho).2
  have s4 := b1.size
  clear ho hg hat hlt b1 O3 s_
  refine hK.out _ _ hHeld2 (fun hHeld => ?_)
  clear hK K hHeld2
  refine wpAnyH_ready (rs := [6]) (by kernel_rfl) (by simp) (AllReadyH.cons rfl (fun K hK => ?_) AllReadyH.nil)
  go_simp
  refine (l02inv_gives (some ⟨P0, o0, none⟩) n c r hi _ (Srd.fst X1.out) HS.out.r Q1.out).mono ?_
  rintro e w5 ⟨v5, rfl, o5, b1⟩
  obtain ⟨P5, c5, rfl⟩ := own_form o5
  have s_ := b1.size; replace X1 := Lib.hid (X1.out.keep b1 X1.out.top); replace B1 := Lib.hid (B1.out.trans (b1.mono B1.out.size))
  replace A1 := Lib.hid (A1.out.keep b1 A1.out.lt)
  replace R4 := Lib.hid (R4.out.keep b1 R4.out.2.1)
  have R5 := Lib.hid (Row.of_own o5); clear o5
  go_wp2_with fail
  have hHeld2 := hHeld.later b1 (by omega); clear b1 hHeld
  refine hK.out _ _ hHeld2 (fun hHeld => ?_)
  clear hK K hHeld2
  refine wpAnyH_ready (rs := [9]) (by kernel_rfl) (by simp) (AllReadyH.cons rfl (fun K hK => ?_) AllReadyH.nil)
  go_simp
  refine (l02then_any P5 _ c5 Q m d (Inv r) u _ _ _ R5.out.rd (Srd.snd X1.out) (Inv_ok HS.out.r) (by rw [Inv_len, ← Q2.out]; exact RU.out)).mono ?_
  rintro e w6 ⟨v6, rfl, o6, b1⟩
  obtain ⟨P6, c6, rfl⟩ := own_form o6
  have hc6 := (own_cap o6).2
  replace B1 := Lib.hid (B1.out.trans (b1.mono B1.out.size))
  replace A1 := Lib.hid (A1.out.keep b1 A1.out.lt)
  replace R4 := Lib.hid (R4.out.keep b1 R4.out.2.1)
  have s6 := b1.size
  have R6 := Lib.hid (Row.of_own o6); clear o6
  go_wp2_with fail
  have hHeld2 := hHeld.later b1 (by omega); clear b1 hHeld R5 X1
  refine hK.out _ _ hHeld2 (fun hHeld => ?_)
  clear hK K hHeld2
  have hl : (thn (Inv r) u).length = n := by rw [thn_len, Inv_len, Q1.out]
  rw [hl] at hc6 ⊢
  replace R6 : Hid (Row w6 w5.heap.size w6.heap.size P6 n (V (thn (Inv r) u))) := Lib.hid (by have := R6.out; rw [hl] at this; exact this)
  clear hl
  refine wpAnyH_ready (rs := [10]) (by kernel_rfl) (by simp) (AllReadyH.cons rfl (fun K hK => ?_) AllReadyH.nil)
  refine step_build rfl 27 _ rfl [(0, .slice (some ⟨g3, 0, none⟩) n c3), (1, .slice P6 n c6)] rfl #[.slice (some ⟨g3, 0, none⟩) n c3, .slice P6 n c6] (built_two _ _ _ _ _ _) ?_
  refine hK.out _ _ hHeld (fun hHeld2 => ?_)
  clear hK K hHeld
  refine wpAnyH_ready (rs := [11]) (by kernel_rfl) (by simp) (AllReadyH.cons rfl (fun K hK => ?_) AllReadyH.nil)
  refine step_store_row rfl 27 _ _ rfl (w.heap.size + 1) #[.slice (some ⟨g3, 0, none⟩) n c3, .slice P6 n c6] rfl rfl 27 #[.slice none 0 0, .slice none 0 0] A1.out size2 rfl (by simp [Value.oneCell']) ?_
  refine hK.out _ _ (hHeld2.other (Nat.le_refl _) (by simp) _) (fun hHeld => ?_)
  clear hK K hHeld2 hHeld
  refine wpAnyH_done (by kernel_rfl) ?_ _
  go_wp2_with fail
  exact bodyPost_ret (v := .agg #[.slice (some ⟨g3, 0, none⟩) n c3, .slice P6 n c6]) (results_cell_row rfl _ _ (w.heap.size + 1) 27 #[.slice (some ⟨g3, 0, none⟩) n c3, .slice P6 n c6] (0, 0) _ rfl A1.out.row Try.underlying27 rfl size2) rfl (by
    have m2 : Svl w6 (w.heap.size + 2) w6.heap.size (.agg #[.slice (some ⟨g3, 0, none⟩) n c3, .slice P6 n c6]) r (thn (Inv r) u) :=
      Svl.mk2 (l2 := w5.heap.size) (R4.out.wider (by omega) (by omega) (by omega)) R6.out (by omega) hc3 hc6
    have := Svl.row m2 (g := w.heap.size + 1) (by omega) #[.slice (some ⟨g3, 0, none⟩) n c3, .slice P6 n c6]
    exact ⟨_, rfl, (by simpa using this.later (by omega)), below_setRow B1.out (by omega) _⟩)
end Go.Proofs.Ytabiakcndddmkaa.mk
