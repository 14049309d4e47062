import Derived.Test.YtpbbfbpggedgpaaY18
import Derived.Deep.CutRange
/-
  Words on surfaces: l05Letter, l05Run and RunWord of the model, RunWord of the program.
-/
namespace Go.Proofs.Ytpbbfbpggedgpaa.rw
open Go.ChangeShapes Go.WideShapes Go.ChangeAt Go.RowKit
open Go.Proofs.Ytpbbfbpggedgpaa.mem Go.Proofs.Ytpbbfbpggedgpaa.ints Go.Proofs.Ytpbbfbpggedgpaa.arr Go.Proofs.Ytpbbfbpggedgpaa.pm Go.Proofs.Ytpbbfbpggedgpaa.permOk Go.Proofs.Ytpbbfbpggedgpaa.permOf Go.Proofs.Ytpbbfbpggedgpaa.inv Go.Proofs.Ytpbbfbpggedgpaa.fns Go.Proofs.Ytpbbfbpggedgpaa.sf Go.Proofs.Ytpbbfbpggedgpaa.gl Go.Proofs.Ytpbbfbpggedgpaa.mk Go.Proofs.Ytpbbfbpggedgpaa.lw Go.Proofs.Ytpbbfbpggedgpaa.la Go.Proofs.Ytpbbfbpggedgpaa.wd
set_option linter.unusedVariables false
set_option maxRecDepth 100000
theorem letS84 {c : UInt8} (h : c.toNat = 84) (s : Sur) : letS c s = shearS s := by simp [letS, h]
theorem letS116 {c : UInt8} (h : c.toNat = 116) (s : Sur) : letS c s = unshearS s := by simp [letS, h]
theorem letS83 {c : UInt8} (h : c.toNat = 83) (s : Sur) : letS c s = turnS s := by simp [letS, h]
theorem letS115 {c : UInt8} (h : c.toNat = 115) (s : Sur) : letS c s = unturnS s := by simp [letS, h]
set_option maxHeartbeats 2000000 in
theorem letter_spec (v : Value) (r u : List Int) (N hi : Nat) (w : World) (hx : Srd w hi v r u) (hs : Sf N r u) (c : UInt8) (hc : isL c = true) :
    Calls Try.prog 56 #[v, .int .u8 (c.toNat : Int)] w fun e w' => ∃ g, e = .returned g ∧ Svl w' w.heap.size w'.heap.size g (letS c (r, u)).1 (letS c (r, u)).2 ∧ Below w.heap.size w w' := by
  have HX := Lib.hid hx
  obtain ⟨P, n, c', Q, m', d, rfl, q1, q2, e1, e2, ht, HR⟩ := hx.open
  have HS := Lib.hid hs
  clear hx hs HR q1 q2
  have HK := Lib.hid (letS_sf HS.out c)
  have N0 := Lib.hid (fun o => Arr.new (w.alloc o) [.slice none 0 0, .slice none 0 0] 30 (g := w.heap.size + 1) (by simp))
  rcases isL_iff.1 hc with h1 | h1 | h1 | h1
  · have EL := Lib.hid (letS84 h1 (r, u)); clear hc
    go_enter Try.func56, Try.ntmps56
    go_wp2_with fail
    refine (shear_any _ r u N hi _ (HX.out.keep (((Below.refl hi w).alloc ht _).alloc (by simp; omega) _) (Nat.le_refl _)) HS.out).mono ?_
    rintro e w6 ⟨g, rfl, sg, b1⟩
    have A1 := Lib.hid ((N0.out _).keep b1 (by simp))
    have hs1 : w.heap.size + 2 ≤ w6.heap.size := by have := b1.size; simpa using this
    replace sg : Svl w6 (w.heap.size + 2) w6.heap.size g (letS c (r, u)).1 (letS c (r, u)).2 := by rw [EL.out]; have t := sg; simp at t; exact t
    have B1 : Hid (Below w.heap.size w w6) := Lib.hid ((((Below.refl _ _).alloc (Nat.le_refl _) _).alloc (by simp) _).trans (b1.mono (by simp <;> omega))); clear b1
    obtain ⟨P3, c3, Q3, d3, rfl⟩ := sg.lens HK.out.lr HK.out.lu
    have SG := Lib.hid sg; clear sg
    go_wp2_with (refine wpList_store_row rfl 30 _ _ rfl (w.heap.size + 1) #[.slice P3 N c3, .slice Q3 N d3] rfl rfl 30 #[.slice none 0 0, .slice none 0 0] A1.out size2 rfl (by simp [Value.oneCell']) ?_)
    exact bodyPost_ret (v := .agg #[.slice P3 N c3, .slice Q3 N d3]) (results_cell_row rfl _ _ (w.heap.size + 1) 30 #[.slice P3 N c3, .slice Q3 N d3] (0, 0) _ rfl A1.out.row Try.underlying30 rfl size2) rfl (by
      have := Svl.row SG.out (g := w.heap.size + 1) (by omega) #[.slice P3 N c3, .slice Q3 N d3]
      exact ⟨_, rfl, (by simpa using this.later (by omega)), below_setRow B1.out (by omega) _⟩)
  · have EL := Lib.hid (letS116 h1 (r, u)); clear hc
    go_enter Try.func56, Try.ntmps56
    go_wp2_with fail
    refine (unshear_any _ r u N hi _ (HX.out.keep (((Below.refl hi w).alloc ht _).alloc (by simp; omega) _) (Nat.le_refl _)) HS.out).mono ?_
    rintro e w6 ⟨g, rfl, sg, b1⟩
    have A1 := Lib.hid ((N0.out _).keep b1 (by simp))
    have hs1 : w.heap.size + 2 ≤ w6.heap.size := by have := b1.size; simpa using this
    replace sg : Svl w6 (w.heap.size + 2) w6.heap.size g (letS c (r, u)).1 (letS c (r, u)).2 := by rw [EL.out]; have t := sg; simp at t; exact t
    have B1 : Hid (Below w.heap.size w w6) := Lib.hid ((((Below.refl _ _).alloc (Nat.le_refl _) _).alloc (by simp) _).trans (b1.mono (by simp <;> omega))); clear b1
    obtain ⟨P3, c3, Q3, d3, rfl⟩ := sg.lens HK.out.lr HK.out.lu
    have SG := Lib.hid sg; clear sg
    go_wp2_with (refine wpList_store_row rfl 30 _ _ rfl (w.heap.size + 1) #[.slice P3 N c3, .slice Q3 N d3] rfl rfl 30 #[.slice none 0 0, .slice none 0 0] A1.out size2 rfl (by simp [Value.oneCell']) ?_)
    exact bodyPost_ret (v := .agg #[.slice P3 N c3, .slice Q3 N d3]) (results_cell_row rfl _ _ (w.heap.size + 1) 30 #[.slice P3 N c3, .slice Q3 N d3] (0, 0) _ rfl A1.out.row Try.underlying30 rfl size2) rfl (by
      have := Svl.row SG.out (g := w.heap.size + 1) (by omega) #[.slice P3 N c3, .slice Q3 N d3]
      exact ⟨_, rfl, (by simpa using this.later (by omega)), below_setRow B1.out (by omega) _⟩)
  · have EL := Lib.hid (letS83 h1 (r, u)); clear hc
    go_enter Try.func56, Try.ntmps56
    go_wp2_with fail
    refine (turn_any _ r u N hi _ (HX.out.keep (((Below.refl hi w).alloc ht _).alloc (by simp; omega) _) (Nat.le_refl _)) HS.out).mono ?_
    rintro e w6 ⟨g, rfl, sg, b1⟩
    have A1 := Lib.hid ((N0.out _).keep b1 (by simp))
    have hs1 : w.heap.size + 2 ≤ w6.heap.size := by have := b1.size; simpa using this
    replace sg : Svl w6 (w.heap.size + 2) w6.heap.size g (letS c (r, u)).1 (letS c (r, u)).2 := by rw [EL.out]; have t := sg; simp at t; exact t
    have B1 : Hid (Below w.heap.size w w6) := Lib.hid ((((Below.refl _ _).alloc (Nat.le_refl _) _).alloc (by simp) _).trans (b1.mono (by simp <;> omega))); clear b1
    obtain ⟨P3, c3, Q3, d3, rfl⟩ := sg.lens HK.out.lr HK.out.lu
    have SG := Lib.hid sg; clear sg
    go_wp2_with (refine wpList_store_row rfl 30 _ _ rfl (w.heap.size + 1) #[.slice P3 N c3, .slice Q3 N d3] rfl rfl 30 #[.slice none 0 0, .slice none 0 0] A1.out size2 rfl (by simp [Value.oneCell']) ?_)
    exact bodyPost_ret (v := .agg #[.slice P3 N c3, .slice Q3 N d3]) (results_cell_row rfl _ _ (w.heap.size + 1) 30 #[.slice P3 N c3, .slice Q3 N d3] (0, 0) _ rfl A1.out.row Try.underlying30 rfl size2) rfl (by
      have := Svl.row SG.out (g := w.heap.size + 1) (by omega) #[.slice P3 N c3, .slice Q3 N d3]
      exact ⟨_, rfl, (by simpa using this.later (by omega)), below_setRow B1.out (by omega) _⟩)
  · have EL := Lib.hid (letS115 h1 (r, u)); clear hc
    go_enter Try.func56, Try.ntmps56
    go_wp2_with fail
    refine (unturn_any _ r u N hi _ (HX.out.keep (((Below.refl hi w).alloc ht _).alloc (by simp; omega) _) (Nat.le_refl _)) HS.out).mono ?_
    rintro e w6 ⟨g, rfl, sg, b1⟩
    have A1 := Lib.hid ((N0.out _).keep b1 (by simp))
    have hs1 : w.heap.size + 2 ≤ w6.heap.size := by have := b1.size; simpa using this
    replace sg : Svl w6 (w.heap.size + 2) w6.heap.size g (letS c (r, u)).1 (letS c (r, u)).2 := by rw [EL.out]; have t := sg; simp at t; exact t
    have B1 : Hid (Below w.heap.size w w6) := Lib.hid ((((Below.refl _ _).alloc (Nat.le_refl _) _).alloc (by simp) _).trans (b1.mono (by simp <;> omega))); clear b1
    obtain ⟨P3, c3, Q3, d3, rfl⟩ := sg.lens HK.out.lr HK.out.lu
    have SG := Lib.hid sg; clear sg
    go_wp2_with (refine wpList_store_row rfl 30 _ _ rfl (w.heap.size + 1) #[.slice P3 N c3, .slice Q3 N d3] rfl rfl 30 #[.slice none 0 0, .slice none 0 0] A1.out size2 rfl (by simp [Value.oneCell']) ?_)
    exact bodyPost_ret (v := .agg #[.slice P3 N c3, .slice Q3 N d3]) (results_cell_row rfl _ _ (w.heap.size + 1) 30 #[.slice P3 N c3, .slice Q3 N d3] (0, 0) _ rfl A1.out.row Try.underlying30 rfl size2) rfl (by
      have := Svl.row SG.out (g := w.heap.size + 1) (by omega) #[.slice P3 N c3, .slice Q3 N d3]
      exact ⟨_, rfl, (by simpa using this.later (by omega)), below_setRow B1.out (by omega) _⟩)
/-- What l05Run keeps between two letters: a box with the surface's headers, two rows, each apart from the others. -/
def Bx (w wr : World) (B5 m : Nat) (r u : List Int) : Prop :=
  ∃ P c Q d l1 h1 l2 h2, Arr wr B5 [.slice P m c, .slice Q m d] 30 ∧ Row wr l1 h1 P m (V r) ∧ Row wr l2 h2 Q m (V u) ∧ m ≤ c ∧ m ≤ d ∧ w.heap.size + 2 ≤ l1 ∧ w.heap.size + 2 ≤ l2 ∧ (h1 ≤ l2 ∨ h2 ≤ l1) ∧
    (h1 ≤ B5 ∨ B5 < l1) ∧ (h2 ≤ B5 ∨ B5 < l2) ∧ w.heap.size + 2 ≤ B5 ∧ Arr wr (w.heap.size + 1) [.slice none 0 0, .slice none 0 0] 30 ∧ Below w.heap.size w wr
theorem row_set {w : World} {lo hi n g : Nat} {A : Option Addr} {xs : List Value} (h : Row w lo hi A n xs) (hg : hi ≤ g ∨ g < lo) (cs : Array Value) : Row (w.setRow g cs) lo hi A n xs :=
  h.out ((Out.refl g (g + 1) w).row_ (Nat.le_refl _) (Nat.lt_succ_self _) cs) (by omega)
theorem own_far {w w' : World} {base b : Nat} {e : TypeId} {g n c : Nat} {xs : List Value} {v : Value} (h : w.ownsRow base e 1 (.slice (some ⟨g, 0, none⟩) n c) n xs) (hg : w.grownBy w' v.ownBlock) (hv : v.ownBlock = some b) (hne : g ≠ b) : w'.ownsRow base e 1 (.slice (some ⟨g, 0, none⟩) n c) n xs := by
  refine ⟨h.1, ?_⟩
  rcases h.2 with ⟨h0, _⟩ | ⟨g', cap, cur, q1, q2, q3, q4⟩
  · exact absurd h0 (by simp)
  · refine .inr ⟨g', cap, cur, q1, q2, ?_, q4⟩
    injection q1 with q1 _ _; injection q1 with q1; injection q1 with q1 _ _
    subst q1
    rw [hg.block _ (Array.getElem?_eq_some_iff.1 q3).1 (by rw [hv]; intro e; cases e; exact hne rfl)]; exact q3
theorem arr_far {w w' : World} {g b : Nat} {cs : List Value} {t : TypeId} {v : Value} (h : Arr w g cs t) (hg : w.grownBy w' v.ownBlock) (hv : v.ownBlock = some b) (hne : g ≠ b) : Arr w' g cs t := by
  unfold Arr
  rw [hg.block _ h.lt (by rw [hv]; intro e; cases e; exact hne rfl)]; exact h
set_option maxHeartbeats 8000000 in
theorem run_spec (v : Value) (r u : List Int) (N hi : Nat) (w : World) (hx : Srd w hi v r u) (hs : Sf N r u) (s : ByteArray) (hw : wok s = true) :
    Calls Try.prog 42 #[v, .string s] w fun e w' => ∃ g, e = .returned g ∧ Svl w' w.heap.size w'.heap.size g (runS s.data.toList (r, u)).1 (runS s.data.toList (r, u)).2 ∧ Below w.heap.size w w' := by
  obtain ⟨i0, hi0, hz0, hz1, hz2⟩ := info_parts infoI
  have HX := Lib.hid hx; clear hx
  have HS := Lib.hid hs; clear hs
  obtain ⟨P, n, c, Q, m, d, rfl, q1, q2, e1, e2, ht, HR⟩ := HX.out.open
  have RU : Hid (r.length = u.length) := Lib.hid (by rw [HS.out.lr, HS.out.lu])
  obtain rfl : n = N := by rw [← q1]; exact HS.out.lr
  have hmn : m = n := by rw [← q1, ← q2]; exact RU.out.symm
  subst hmn
  have hN24 : m ≤ 24 := by have := HS.out.r.len; rw [HS.out.lr] at this; omega
  have hN0 : 0 < m := HS.out.pos
  have hs40 := wok_len hw
  have HW := Lib.hid hw; clear hw
  have Q1 := Lib.hid q1; have Q2 := Lib.hid q2; clear q1 q2
  clear HR
  go_enter Try.func42, Try.ntmps42
  go_wp2_with fail
  have A0 := Lib.hid ((Arr.new w [.slice P m c, .slice Q m d] 30 rfl).alloc (.cells #[.slice none 0 0, .slice none 0 0] 30))
  have A1 := Lib.hid (Arr.new (w.alloc (.cells #[.slice P m c, .slice Q m d] 30)) [.slice none 0 0, .slice none 0 0] 30 rfl)
  have B1 := Lib.hid (((Below.refl w.heap.size w).alloc (Nat.le_refl _) (.cells #[.slice P m c, .slice Q m d] 30)).alloc (by simp) (.cells #[.slice none 0 0, .slice none 0 0] 30))
  have es : ((w.alloc (.cells #[.slice P m c, .slice Q m d] 30)).alloc (.cells #[.slice none 0 0, .slice none 0 0] 30)).heap.size = w.heap.size + 2 := by simp
  rw [show (w.alloc (.cells #[.slice P m c, .slice Q m d] 30)).heap.size = w.heap.size + 1 by simp] at A1
  have X1 : Hid (Srd ((w.alloc (.cells #[.slice P m c, .slice Q m d] 30)).alloc (.cells #[.slice none 0 0, .slice none 0 0] 30)) hi (.agg #[.slice P m c, .slice Q m d]) r u) := Lib.hid (HX.out.keep (B1.out.mono ht) (Nat.le_refl _))
  replace es : w.heap.size + 2 ≤ ((w.alloc (.cells #[.slice P m c, .slice Q m d] 30)).alloc (.cells #[.slice none 0 0, .slice none 0 0] 30)).heap.size := by omega
  generalize (w.alloc (.cells #[.slice P m c, .slice Q m d] 30)).alloc (.cells #[.slice none 0 0, .slice none 0 0] 30) = w1 at *
  go_cut [5] from 7 to 15 (fun p wx => ∃ B5, p = .pointer (some ⟨B5, 0, none⟩) ∧ Bx w wx B5 m r u)
  case first =>
    refine wp_region_held_drew (S := Hld (w.heap.size + 1) w1.heap.size w1 [(w.heap.size, [.slice P m c, .slice Q m d])]) (by kernel_rfl) ((Hld.start1 A0.out).lower (by omega)) (fun hHeld => ?_)
    have b1 : Below w1.heap.size w1 w1.drew := ⟨rfl, rfl, rfl, Nat.le_refl _, fun _ _ => rfl⟩
    generalize w1.drew = w2 at *
    have s2 := b1.size; replace X1 := Lib.hid (X1.out.keep b1 X1.out.top); replace B1 := Lib.hid (B1.out.trans (b1.mono B1.out.size))
    replace A1 := Lib.hid (A1.out.keep b1 A1.out.lt); clear b1 A0
    have hP : ∃ g o, P = some ⟨g, o, none⟩ := by
      obtain ⟨g, off, q, _⟩ := (Srd.fst X1.out).2.2 hN0
      exact ⟨g, off, q⟩
    obtain ⟨P0, o0, rfl⟩ := hP
    have hQ : ∃ g o, Q = some ⟨g, o, none⟩ := by
      obtain ⟨g, off, q, _⟩ := (Srd.snd X1.out).2.2 hN0
      exact ⟨g, off, q⟩
    obtain ⟨Q0, p0, rfl⟩ := hQ
    refine wpAnyH_take (i := 1) (v := .pointer (some ⟨w.heap.size, 0, none⟩)) rfl (by kernel_rfl) (by kernel_rfl) (by kernel_rfl) (fun _ _ _ h => h) (Or.inl ⟨by rfl, fun w hSw => by go_simp⟩) hHeld ?_
    refine wpAnyH_take (i := 5) (v := .pointer (some ⟨w.heap.size, 1, none⟩)) rfl (by kernel_rfl) (by kernel_rfl) (by kernel_rfl) (fun _ _ _ h => h) (Or.inl ⟨by rfl, fun w hSw => by go_simp⟩) hHeld ?_
    refine wpAnyH_take (i := 2) (v := .slice (some ⟨P0, o0, none⟩) m c) rfl (by kernel_rfl) (by kernel_rfl) (by kernel_rfl) (fun _ _ _ h => h) (Or.inl ⟨by rfl, fun w hSw => by have := hSw.c0; go_simp⟩) hHeld ?_
    refine wpAnyH_take (i := 6) (v := .slice (some ⟨Q0, p0, none⟩) m d) rfl (by kernel_rfl) (by kernel_rfl) (by kernel_rfl) (fun _ _ _ h => h) (Or.inl ⟨by rfl, fun w hSw => by have := hSw.c1; go_simp⟩) hHeld ?_
    refine wpAnyH_ready (rs := [0, 4, 9]) (by kernel_rfl) (by simp) (AllReadyH.cons rfl (fun K hK => ?_) (AllReadyH.cons rfl (fun K hK => ?_) (AllReadyH.cons rfl (fun K hK => ?_) AllReadyH.nil)))
    · go_simp
      have b1 : Below w2.heap.size w2 (w2.alloc (.cells #[] 3)) := (Below.refl _ _).alloc (Nat.le_refl _) _
      have s_1 : w2.heap.size < (w2.alloc (.cells #[] 3)).heap.size := by simp
      have oa := Lib.hid (Grows.empty w2).own
      replace X1 := Lib.hid (X1.out.keep b1 X1.out.top); replace B1 := Lib.hid (B1.out.trans (b1.mono B1.out.size)); replace A1 := Lib.hid (A1.out.keep b1 A1.out.lt)
      have hHeld2 := hHeld.later b1 (by omega); clear hHeld b1
      refine hK.out _ _ hHeld2 (fun hHeld => ?_)
      clear hK K hHeld2
      generalize w2.alloc (.cells #[] 3) = v1 at *
      have Oa := oa; clear oa
      refine wpAnyH_ready (rs := [3, 4, 9]) (by kernel_rfl) (by simp) (AllReadyH.cons rfl (fun K hK => ?_) (AllReadyH.cons rfl (fun K hK => ?_) (AllReadyH.cons rfl (fun K hK => ?_) AllReadyH.nil)))
      · have hnews : ∀ (j : Nat) (q : Value), (V r)[j]? = some q → v1.cell? ((⟨P0, o0, none⟩ : Addr).add j) = some q := fun j q hq => by
          have hj : j < m := by have := (List.getElem?_eq_some_iff.1 hq).1; rw [V_len, Q1.out] at this; exact this
          obtain ⟨g, off, u', e, _, h1, h2⟩ := (Srd.fst X1.out).at_ hj
          injection e with e; injection e with e1 e2 e3
          subst e1; subst e2
          rw [h1] at hq
          have : (⟨P0, o0, none⟩ : Addr).add j = ⟨P0, o0 + j, none⟩ := by simp [Addr.add]
          rw [this, h2, ← hq]
        have hws : w2.heap.size ≤ v1.heap.size := by omega
        refine step_append_lies v1 rfl _ _ 24 rfl w2.heap.size 3 i0 _ 1 8 Try.underlying24 hi0 hz0 hz1 hz2 rfl (by decide) _ 0 [] rfl Oa.out ⟨P0, o0, none⟩ m c (V r) rfl (by rw [V_len, Q1.out, Nat.mul_one]) hnews (fun q hq => by obtain ⟨z, _, rfl⟩ := List.mem_map.1 hq; rfl) hN0 (by unfold maxLen; omega) (by omega) hws _ rfl ?_
        intro g3 c3 v2 ho hg hat hlta
        clear hnews
        have b2 : Below w2.heap.size v1 v2 := own_below Oa.out hg (Nat.le_refl _) hws
        rw [Nat.zero_add, List.nil_append] at ho
        rw [Nat.zero_add]
        have hata : g3 = w2.heap.size ∨ g3 = v1.heap.size := by
          rcases hat with h | h
          · have h' : some w2.heap.size = some g3 := h
            injection h' with h'
            exact .inl h'.symm
          · exact .inr h
        have hHeld2 := Hld.later2 hHeld b2 (by omega) (by omega); clear hHeld
        replace X1 := Lib.hid (X1.out.keep (b2.mono (by have := X1.out.top; have := HX.out.top; omega)) (Nat.le_refl _))
        replace B1 := Lib.hid (B1.out.trans (b2.mono (by omega)))
        replace A1 := Lib.hid (A1.out.keep b2 (by omega))
        have Ra := Lib.hid ((Row.of_own ho).one hlta)
        have hca := (own_cap ho).2
        have s_2 := b2.size
        clear ho hg hat b2 Oa
        refine hK.out _ _ hHeld2 (fun hHeld => ?_)
        clear hK K hHeld2
        refine wpAnyH_ready (rs := [4, 9]) (by kernel_rfl) (by simp) (AllReadyH.cons rfl (fun K hK => ?_) (AllReadyH.cons rfl (fun K hK => ?_) AllReadyH.nil))
        · go_simp
          have b1 : Below v2.heap.size v2 (v2.alloc (.cells #[] 3)) := (Below.refl _ _).alloc (Nat.le_refl _) _
          have s_3 : v2.heap.size < (v2.alloc (.cells #[] 3)).heap.size := by simp
          have ob := Lib.hid (Grows.empty v2).own
          replace X1 := Lib.hid (X1.out.keep b1 X1.out.top); replace B1 := Lib.hid (B1.out.trans (b1.mono B1.out.size)); replace A1 := Lib.hid (A1.out.keep b1 A1.out.lt)
          replace Ra := Lib.hid (Ra.out.keep b1 Ra.out.2.1)
          have hHeld2 := hHeld.later b1 (by omega); clear hHeld b1
          refine hK.out _ _ hHeld2 (fun hHeld => ?_)
          clear hK K hHeld2
          generalize v2.alloc (.cells #[] 3) = v3 at *
          have Ob := ob; clear ob
          refine wpAnyH_ready (rs := [7, 9]) (by kernel_rfl) (by simp) (AllReadyH.cons rfl (fun K hK => ?_) (AllReadyH.cons rfl (fun K hK => ?_) AllReadyH.nil))
          · have hnews : ∀ (j : Nat) (q : Value), (V u)[j]? = some q → v3.cell? ((⟨Q0, p0, none⟩ : Addr).add j) = some q := fun j q hq => by
              have hj : j < m := by have := (List.getElem?_eq_some_iff.1 hq).1; rw [V_len, Q2.out] at this; exact this
              obtain ⟨g, off, u', e, _, h1, h2⟩ := (Srd.snd X1.out).at_ hj
              injection e with e; injection e with e1 e2 e3
              subst e1; subst e2
              rw [h1] at hq
              have : (⟨Q0, p0, none⟩ : Addr).add j = ⟨Q0, p0 + j, none⟩ := by simp [Addr.add]
              rw [this, h2, ← hq]
            have hws : v2.heap.size ≤ v3.heap.size := by omega
            refine step_append_lies v3 rfl _ _ 24 rfl v2.heap.size 3 i0 _ 1 8 Try.underlying24 hi0 hz0 hz1 hz2 rfl (by decide) _ 0 [] rfl Ob.out ⟨Q0, p0, none⟩ m d (V u) rfl (by rw [V_len, Q2.out, Nat.mul_one]) hnews (fun q hq => by obtain ⟨z, _, rfl⟩ := List.mem_map.1 hq; rfl) hN0 (by unfold maxLen; omega) (by omega) hws _ rfl ?_
            intro g4 c4 v4 ho hg hat hltb
            clear hnews
            have b2 : Below v2.heap.size v3 v4 := own_below Ob.out hg (Nat.le_refl _) hws
            rw [Nat.zero_add, List.nil_append] at ho
            rw [Nat.zero_add]
            have hatb : g4 = v2.heap.size ∨ g4 = v3.heap.size := by
              rcases hat with h | h
              · have h' : some v2.heap.size = some g4 := h
                injection h' with h'
                exact .inl h'.symm
              · exact .inr h
            replace Ra := Lib.hid (row_far Ob.out hg Ra.out (fun b hb => by have h' : some v2.heap.size = some b := hb; injection h' with h'; omega))
            have hHeld2 := Hld.later2 hHeld b2 (by omega) (by omega); clear hHeld
            replace X1 := Lib.hid (X1.out.keep (b2.mono (by have := X1.out.top; have := HX.out.top; omega)) (Nat.le_refl _))
            replace B1 := Lib.hid (B1.out.trans (b2.mono (by omega)))
            replace A1 := Lib.hid (A1.out.keep b2 (by omega))
            have Rb := Lib.hid ((Row.of_own ho).one hltb)
            have hcb := (own_cap ho).2
            have s_4 := b2.size
            clear ho hg hat b2 Ob
            refine hK.out _ _ hHeld2 (fun hHeld => ?_)
            clear hK K hHeld2
            refine wpAnyH_ready (rs := [8, 9]) (by kernel_rfl) (by simp) (AllReadyH.cons rfl (fun K hK => ?_) (AllReadyH.cons rfl (fun K hK => ?_) AllReadyH.nil))
            · refine step_build rfl 30 _ rfl [(0, .slice (some ⟨g3, 0, none⟩) m c3), (1, .slice (some ⟨g4, 0, none⟩) m c4)] rfl #[.slice (some ⟨g3, 0, none⟩) m c3, .slice (some ⟨g4, 0, none⟩) m c4] (built_two _ _ _ _ _ _) ?_
              refine hK.out _ _ hHeld (fun hHeld2 => ?_)
              have hHeld := hHeld2
              clear hK K hHeld2
              refine wpAnyH_ready (rs := [9]) (by kernel_rfl) (by simp) (AllReadyH.cons rfl (fun K hK => ?_) AllReadyH.nil)
              go_simp
              have b1 : Below v4.heap.size v4 (v4.alloc (.cells #[.slice none 0 0, .slice none 0 0] 30)) := (Below.refl _ _).alloc (Nat.le_refl _) _
              have s_6 : v4.heap.size < (v4.alloc (.cells #[.slice none 0 0, .slice none 0 0] 30)).heap.size := by simp
              have al := Lib.hid (Arr.new v4 [.slice none 0 0, .slice none 0 0] 30 rfl)
              replace X1 := Lib.hid (X1.out.keep b1 X1.out.top); replace B1 := Lib.hid (B1.out.trans (b1.mono B1.out.size)); replace A1 := Lib.hid (A1.out.keep b1 A1.out.lt)
              replace Ra := Lib.hid (Ra.out.keep b1 Ra.out.2.1)
              replace Rb := Lib.hid (Rb.out.keep b1 Rb.out.2.1)
              have hHeld2 := hHeld.later b1 (by omega); clear hHeld b1
              refine hK.out _ _ hHeld2 (fun hHeld => ?_)
              clear hK K hHeld2
              generalize v4.alloc (.cells #[.slice none 0 0, .slice none 0 0] 30) = v6 at *
              have AL := al; clear al
              refine wpAnyH_ready (rs := [10]) (by kernel_rfl) (by simp) (AllReadyH.cons rfl (fun K hK => ?_) AllReadyH.nil)
              refine step_store_row rfl 30 _ _ rfl (v4.heap.size) #[.slice (some ⟨g3, 0, none⟩) m c3, .slice (some ⟨g4, 0, none⟩) m c4] rfl rfl 30 #[.slice none 0 0, .slice none 0 0] AL.out size2 rfl (by simp [Value.oneCell']) ?_
              change K (Act.put _ none _) _
              simp only [Act.put]
              refine hK.out _ _ (hHeld.other (by omega) (by simp; omega) _) (fun hHeld2 => ?_)
              clear hK K hHeld hHeld2
              refine wpAnyH_done (by kernel_rfl) ?_ _
              go_wp2_with fail
              go_meet
              exact ⟨_, rfl, _, _, _, _, _, _, _, _, AL.out.row, row_set Ra.out (by omega) _, row_set Rb.out (by omega) _, hca, hcb, by omega, by omega, by omega, by omega, by omega, by omega, A1.out.rowOther (by omega), below_setRow B1.out (by omega) _⟩
            · go_simp
              have b1 : Below v4.heap.size v4 (v4.alloc (.cells #[.slice none 0 0, .slice none 0 0] 30)) := (Below.refl _ _).alloc (Nat.le_refl _) _
              have s_5 : v4.heap.size < (v4.alloc (.cells #[.slice none 0 0, .slice none 0 0] 30)).heap.size := by simp
              have al := Lib.hid (Arr.new v4 [.slice none 0 0, .slice none 0 0] 30 rfl)
              replace X1 := Lib.hid (X1.out.keep b1 X1.out.top); replace B1 := Lib.hid (B1.out.trans (b1.mono B1.out.size)); replace A1 := Lib.hid (A1.out.keep b1 A1.out.lt)
              replace Ra := Lib.hid (Ra.out.keep b1 Ra.out.2.1)
              replace Rb := Lib.hid (Rb.out.keep b1 Rb.out.2.1)
              have hHeld2 := hHeld.later b1 (by omega); clear hHeld b1
              refine hK.out _ _ hHeld2 (fun hHeld => ?_)
              clear hK K hHeld2
              generalize v4.alloc (.cells #[.slice none 0 0, .slice none 0 0] 30) = v5 at *
              have AL := al; clear al
              refine wpAnyH_ready (rs := [8]) (by kernel_rfl) (by simp) (AllReadyH.cons rfl (fun K hK => ?_) AllReadyH.nil)
              refine step_build rfl 30 _ rfl [(0, .slice (some ⟨g3, 0, none⟩) m c3), (1, .slice (some ⟨g4, 0, none⟩) m c4)] rfl #[.slice (some ⟨g3, 0, none⟩) m c3, .slice (some ⟨g4, 0, none⟩) m c4] (built_two _ _ _ _ _ _) ?_
              refine hK.out _ _ hHeld (fun hHeld2 => ?_)
              have hHeld := hHeld2
              clear hK K hHeld2
              refine wpAnyH_ready (rs := [10]) (by kernel_rfl) (by simp) (AllReadyH.cons rfl (fun K hK => ?_) AllReadyH.nil)
              refine step_store_row rfl 30 _ _ rfl (v4.heap.size) #[.slice (some ⟨g3, 0, none⟩) m c3, .slice (some ⟨g4, 0, none⟩) m c4] rfl rfl 30 #[.slice none 0 0, .slice none 0 0] AL.out size2 rfl (by simp [Value.oneCell']) ?_
              change K (Act.put (Act.put _ (some 15) _) none _) _
              simp only [Act.put, List.setIfInBounds_toArray, List.set_cons_zero, List.set_cons_succ]
              refine hK.out _ _ (hHeld.other (by omega) (by simp; omega) _) (fun hHeld2 => ?_)
              clear hK K hHeld hHeld2
              refine wpAnyH_done (by kernel_rfl) ?_ _
              go_wp2_with fail
              go_meet
              exact ⟨_, rfl, _, _, _, _, _, _, _, _, AL.out.row, row_set Ra.out (by omega) _, row_set Rb.out (by omega) _, hca, hcb, by omega, by omega, by omega, by omega, by omega, by omega, A1.out.rowOther (by omega), below_setRow B1.out (by omega) _⟩
          · go_simp
            have b1 : Below v3.heap.size v3 (v3.alloc (.cells #[.slice none 0 0, .slice none 0 0] 30)) := (Below.refl _ _).alloc (Nat.le_refl _) _
            have s_4 : v3.heap.size < (v3.alloc (.cells #[.slice none 0 0, .slice none 0 0] 30)).heap.size := by simp
            have al := Lib.hid (Arr.new v3 [.slice none 0 0, .slice none 0 0] 30 rfl)
            replace X1 := Lib.hid (X1.out.keep b1 X1.out.top); replace B1 := Lib.hid (B1.out.trans (b1.mono B1.out.size)); replace A1 := Lib.hid (A1.out.keep b1 A1.out.lt)
            replace Ob := Lib.hid (own_keep Ob.out b1 (by omega))
            replace Ra := Lib.hid (Ra.out.keep b1 Ra.out.2.1)
            have hHeld2 := hHeld.later b1 (by omega); clear hHeld b1
            refine hK.out _ _ hHeld2 (fun hHeld => ?_)
            clear hK K hHeld2
            generalize v3.alloc (.cells #[.slice none 0 0, .slice none 0 0] 30) = v4 at *
            have AL := al; clear al
            refine wpAnyH_ready (rs := [7]) (by kernel_rfl) (by simp) (AllReadyH.cons rfl (fun K hK => ?_) AllReadyH.nil)
            have hnews : ∀ (j : Nat) (q : Value), (V u)[j]? = some q → v4.cell? ((⟨Q0, p0, none⟩ : Addr).add j) = some q := fun j q hq => by
              have hj : j < m := by have := (List.getElem?_eq_some_iff.1 hq).1; rw [V_len, Q2.out] at this; exact this
              obtain ⟨g, off, u', e, _, h1, h2⟩ := (Srd.snd X1.out).at_ hj
              injection e with e; injection e with e1 e2 e3
              subst e1; subst e2
              rw [h1] at hq
              have : (⟨Q0, p0, none⟩ : Addr).add j = ⟨Q0, p0 + j, none⟩ := by simp [Addr.add]
              rw [this, h2, ← hq]
            have hws : v2.heap.size ≤ v4.heap.size := by omega
            refine step_append_lies v4 rfl _ _ 24 rfl v2.heap.size 3 i0 _ 1 8 Try.underlying24 hi0 hz0 hz1 hz2 rfl (by decide) _ 0 [] rfl Ob.out ⟨Q0, p0, none⟩ m d (V u) rfl (by rw [V_len, Q2.out, Nat.mul_one]) hnews (fun q hq => by obtain ⟨z, _, rfl⟩ := List.mem_map.1 hq; rfl) hN0 (by unfold maxLen; omega) (by omega) hws _ rfl ?_
            intro g4 c4 v5 ho hg hat hltb
            clear hnews
            have b2 : Below v2.heap.size v4 v5 := own_below Ob.out hg (Nat.le_refl _) hws
            rw [Nat.zero_add, List.nil_append] at ho
            rw [Nat.zero_add]
            have hatb : g4 = v2.heap.size ∨ g4 = v4.heap.size := by
              rcases hat with h | h
              · have h' : some v2.heap.size = some g4 := h
                injection h' with h'
                exact .inl h'.symm
              · exact .inr h
            replace Ra := Lib.hid (row_far Ob.out hg Ra.out (fun b hb => by have h' : some v2.heap.size = some b := hb; injection h' with h'; omega))
            replace AL := Lib.hid (arr_far AL.out hg (b := v2.heap.size) rfl (by omega))
            have hHeld2 := Hld.later2 hHeld b2 (by omega) (by omega); clear hHeld
            replace X1 := Lib.hid (X1.out.keep (b2.mono (by have := X1.out.top; have := HX.out.top; omega)) (Nat.le_refl _))
            replace B1 := Lib.hid (B1.out.trans (b2.mono (by omega)))
            replace A1 := Lib.hid (A1.out.keep b2 (by omega))
            have Rb := Lib.hid ((Row.of_own ho).one hltb)
            have hcb := (own_cap ho).2
            have s_5 := b2.size
            clear ho hg hat b2 Ob
            refine hK.out _ _ hHeld2 (fun hHeld => ?_)
            clear hK K hHeld2
            refine wpAnyH_ready (rs := [8]) (by kernel_rfl) (by simp) (AllReadyH.cons rfl (fun K hK => ?_) AllReadyH.nil)
            refine step_build rfl 30 _ rfl [(0, .slice (some ⟨g3, 0, none⟩) m c3), (1, .slice (some ⟨g4, 0, none⟩) m c4)] rfl #[.slice (some ⟨g3, 0, none⟩) m c3, .slice (some ⟨g4, 0, none⟩) m c4] (built_two _ _ _ _ _ _) ?_
            refine hK.out _ _ hHeld (fun hHeld2 => ?_)
            have hHeld := hHeld2
            clear hK K hHeld2
            refine wpAnyH_ready (rs := [10]) (by kernel_rfl) (by simp) (AllReadyH.cons rfl (fun K hK => ?_) AllReadyH.nil)
            refine step_store_row rfl 30 _ _ rfl (v3.heap.size) #[.slice (some ⟨g3, 0, none⟩) m c3, .slice (some ⟨g4, 0, none⟩) m c4] rfl rfl 30 #[.slice none 0 0, .slice none 0 0] AL.out size2 rfl (by simp [Value.oneCell']) ?_
            change K (Act.put (Act.put (Act.put _ (some 14) _) (some 15) _) none _) _
            simp only [Act.put, List.setIfInBounds_toArray, List.set_cons_zero, List.set_cons_succ]
            refine hK.out _ _ (hHeld.other (by omega) (by simp; omega) _) (fun hHeld2 => ?_)
            clear hK K hHeld hHeld2
            refine wpAnyH_done (by kernel_rfl) ?_ _
            go_wp2_with fail
            go_meet
            exact ⟨_, rfl, _, _, _, _, _, _, _, _, AL.out.row, row_set Ra.out (by omega) _, row_set Rb.out (by omega) _, hca, hcb, by omega, by omega, by omega, by omega, by omega, by omega, A1.out.rowOther (by omega), below_setRow B1.out (by omega) _⟩
        · go_simp
          have b1 : Below v2.heap.size v2 (v2.alloc (.cells #[.slice none 0 0, .slice none 0 0] 30)) := (Below.refl _ _).alloc (Nat.le_refl _) _
          have s_3 : v2.heap.size < (v2.alloc (.cells #[.slice none 0 0, .slice none 0 0] 30)).heap.size := by simp
          have al := Lib.hid (Arr.new v2 [.slice none 0 0, .slice none 0 0] 30 rfl)
          replace X1 := Lib.hid (X1.out.keep b1 X1.out.top); replace B1 := Lib.hid (B1.out.trans (b1.mono B1.out.size)); replace A1 := Lib.hid (A1.out.keep b1 A1.out.lt)
          replace Ra := Lib.hid (Ra.out.keep b1 Ra.out.2.1)
          have hHeld2 := hHeld.later b1 (by omega); clear hHeld b1
          refine hK.out _ _ hHeld2 (fun hHeld => ?_)
          clear hK K hHeld2
          generalize v2.alloc (.cells #[.slice none 0 0, .slice none 0 0] 30) = v3 at *
          have AL := al; clear al
          refine wpAnyH_ready (rs := [4]) (by kernel_rfl) (by simp) (AllReadyH.cons rfl (fun K hK => ?_) AllReadyH.nil)
          go_simp
          have b1 : Below v3.heap.size v3 (v3.alloc (.cells #[] 3)) := (Below.refl _ _).alloc (Nat.le_refl _) _
          have s_4 : v3.heap.size < (v3.alloc (.cells #[] 3)).heap.size := by simp
          have ob := Lib.hid (Grows.empty v3).own
          replace X1 := Lib.hid (X1.out.keep b1 X1.out.top); replace B1 := Lib.hid (B1.out.trans (b1.mono B1.out.size)); replace A1 := Lib.hid (A1.out.keep b1 A1.out.lt)
          replace Ra := Lib.hid (Ra.out.keep b1 Ra.out.2.1)
          replace AL := Lib.hid (AL.out.keep b1 AL.out.lt)
          have hHeld2 := hHeld.later b1 (by omega); clear hHeld b1
          refine hK.out _ _ hHeld2 (fun hHeld => ?_)
          clear hK K hHeld2
          generalize v3.alloc (.cells #[] 3) = v4 at *
          have Ob := ob; clear ob
          refine wpAnyH_ready (rs := [7]) (by kernel_rfl) (by simp) (AllReadyH.cons rfl (fun K hK => ?_) AllReadyH.nil)
          have hnews : ∀ (j : Nat) (q : Value), (V u)[j]? = some q → v4.cell? ((⟨Q0, p0, none⟩ : Addr).add j) = some q := fun j q hq => by
            have hj : j < m := by have := (List.getElem?_eq_some_iff.1 hq).1; rw [V_len, Q2.out] at this; exact this
            obtain ⟨g, off, u', e, _, h1, h2⟩ := (Srd.snd X1.out).at_ hj
            injection e with e; injection e with e1 e2 e3
            subst e1; subst e2
            rw [h1] at hq
            have : (⟨Q0, p0, none⟩ : Addr).add j = ⟨Q0, p0 + j, none⟩ := by simp [Addr.add]
            rw [this, h2, ← hq]
          have hws : v3.heap.size ≤ v4.heap.size := by omega
          refine step_append_lies v4 rfl _ _ 24 rfl v3.heap.size 3 i0 _ 1 8 Try.underlying24 hi0 hz0 hz1 hz2 rfl (by decide) _ 0 [] rfl Ob.out ⟨Q0, p0, none⟩ m d (V u) rfl (by rw [V_len, Q2.out, Nat.mul_one]) hnews (fun q hq => by obtain ⟨z, _, rfl⟩ := List.mem_map.1 hq; rfl) hN0 (by unfold maxLen; omega) (by omega) hws _ rfl ?_
          intro g4 c4 v5 ho hg hat hltb
          clear hnews
          have b2 : Below v3.heap.size v4 v5 := own_below Ob.out hg (Nat.le_refl _) hws
          rw [Nat.zero_add, List.nil_append] at ho
          rw [Nat.zero_add]
          have hatb : g4 = v3.heap.size ∨ g4 = v4.heap.size := by
            rcases hat with h | h
            · have h' : some v3.heap.size = some g4 := h
              injection h' with h'
              exact .inl h'.symm
            · exact .inr h
          replace Ra := Lib.hid (row_far Ob.out hg Ra.out (fun b hb => by have h' : some v3.heap.size = some b := hb; injection h' with h'; omega))
          replace AL := Lib.hid (arr_far AL.out hg (b := v3.heap.size) rfl (by omega))
          have hHeld2 := Hld.later2 hHeld b2 (by omega) (by omega); clear hHeld
          replace X1 := Lib.hid (X1.out.keep (b2.mono (by have := X1.out.top; have := HX.out.top; omega)) (Nat.le_refl _))
          replace B1 := Lib.hid (B1.out.trans (b2.mono (by omega)))
          replace A1 := Lib.hid (A1.out.keep b2 (by omega))
          have Rb := Lib.hid ((Row.of_own ho).one hltb)
          have hcb := (own_cap ho).2
          have s_5 := b2.size
          clear ho hg hat b2 Ob
          refine hK.out _ _ hHeld2 (fun hHeld => ?_)
          clear hK K hHeld2
          refine wpAnyH_ready (rs := [8]) (by kernel_rfl) (by simp) (AllReadyH.cons rfl (fun K hK => ?_) AllReadyH.nil)
          refine step_build rfl 30 _ rfl [(0, .slice (some ⟨g3, 0, none⟩) m c3), (1, .slice (some ⟨g4, 0, none⟩) m c4)] rfl #[.slice (some ⟨g3, 0, none⟩) m c3, .slice (some ⟨g4, 0, none⟩) m c4] (built_two _ _ _ _ _ _) ?_
          refine hK.out _ _ hHeld (fun hHeld2 => ?_)
          have hHeld := hHeld2
          clear hK K hHeld2
          refine wpAnyH_ready (rs := [10]) (by kernel_rfl) (by simp) (AllReadyH.cons rfl (fun K hK => ?_) AllReadyH.nil)
          refine step_store_row rfl 30 _ _ rfl (v2.heap.size) #[.slice (some ⟨g3, 0, none⟩) m c3, .slice (some ⟨g4, 0, none⟩) m c4] rfl rfl 30 #[.slice none 0 0, .slice none 0 0] AL.out size2 rfl (by simp [Value.oneCell']) ?_
          change K (Act.put (Act.put (Act.put _ (some 14) _) (some 15) _) none _) _
          simp only [Act.put, List.setIfInBounds_toArray, List.set_cons_zero, List.set_cons_succ]
          refine hK.out _ _ (hHeld.other (by omega) (by simp; omega) _) (fun hHeld2 => ?_)
          clear hK K hHeld hHeld2
          refine wpAnyH_done (by kernel_rfl) ?_ _
          go_wp2_with fail
          go_meet
          exact ⟨_, rfl, _, _, _, _, _, _, _, _, AL.out.row, row_set Ra.out (by omega) _, row_set Rb.out (by omega) _, hca, hcb, by omega, by omega, by omega, by omega, by omega, by omega, A1.out.rowOther (by omega), below_setRow B1.out (by omega) _⟩
      · go_simp
        have b1 : Below v1.heap.size v1 (v1.alloc (.cells #[] 3)) := (Below.refl _ _).alloc (Nat.le_refl _) _
        have s_2 : v1.heap.size < (v1.alloc (.cells #[] 3)).heap.size := by simp
        have ob := Lib.hid (Grows.empty v1).own
        replace X1 := Lib.hid (X1.out.keep b1 X1.out.top); replace B1 := Lib.hid (B1.out.trans (b1.mono B1.out.size)); replace A1 := Lib.hid (A1.out.keep b1 A1.out.lt)
        replace Oa := Lib.hid (own_keep Oa.out b1 (by omega))
        have hHeld2 := hHeld.later b1 (by omega); clear hHeld b1
        refine hK.out _ _ hHeld2 (fun hHeld => ?_)
        clear hK K hHeld2
        generalize v1.alloc (.cells #[] 3) = v2 at *
        have Ob := ob; clear ob
        refine wpAnyH_ready (rs := [3, 9]) (by kernel_rfl) (by simp) (AllReadyH.cons rfl (fun K hK => ?_) (AllReadyH.cons rfl (fun K hK => ?_) AllReadyH.nil))
        · have hnews : ∀ (j : Nat) (q : Value), (V r)[j]? = some q → v2.cell? ((⟨P0, o0, none⟩ : Addr).add j) = some q := fun j q hq => by
            have hj : j < m := by have := (List.getElem?_eq_some_iff.1 hq).1; rw [V_len, Q1.out] at this; exact this
            obtain ⟨g, off, u', e, _, h1, h2⟩ := (Srd.fst X1.out).at_ hj
            injection e with e; injection e with e1 e2 e3
            subst e1; subst e2
            rw [h1] at hq
            have : (⟨P0, o0, none⟩ : Addr).add j = ⟨P0, o0 + j, none⟩ := by simp [Addr.add]
            rw [this, h2, ← hq]
          have hws : w2.heap.size ≤ v2.heap.size := by omega
          refine step_append_lies v2 rfl _ _ 24 rfl w2.heap.size 3 i0 _ 1 8 Try.underlying24 hi0 hz0 hz1 hz2 rfl (by decide) _ 0 [] rfl Oa.out ⟨P0, o0, none⟩ m c (V r) rfl (by rw [V_len, Q1.out, Nat.mul_one]) hnews (fun q hq => by obtain ⟨z, _, rfl⟩ := List.mem_map.1 hq; rfl) hN0 (by unfold maxLen; omega) (by omega) hws _ rfl ?_
          intro g3 c3 v3 ho hg hat hlta
          clear hnews
          have b2 : Below w2.heap.size v2 v3 := own_below Oa.out hg (Nat.le_refl _) hws
          rw [Nat.zero_add, List.nil_append] at ho
          rw [Nat.zero_add]
          have hata : g3 = w2.heap.size ∨ g3 = v2.heap.size := by
            rcases hat with h | h
            · have h' : some w2.heap.size = some g3 := h
              injection h' with h'
              exact .inl h'.symm
            · exact .inr h
          replace Ob := Lib.hid (own_far Ob.out hg (b := w2.heap.size) rfl (by omega))
          have hHeld2 := Hld.later2 hHeld b2 (by omega) (by omega); clear hHeld
          replace X1 := Lib.hid (X1.out.keep (b2.mono (by have := X1.out.top; have := HX.out.top; omega)) (Nat.le_refl _))
          replace B1 := Lib.hid (B1.out.trans (b2.mono (by omega)))
          replace A1 := Lib.hid (A1.out.keep b2 (by omega))
          have Ra := Lib.hid ((Row.of_own ho).one hlta)
          have hca := (own_cap ho).2
          have s_3 := b2.size
          clear ho hg hat b2 Oa
          refine hK.out _ _ hHeld2 (fun hHeld => ?_)
          clear hK K hHeld2
          refine wpAnyH_ready (rs := [7, 9]) (by kernel_rfl) (by simp) (AllReadyH.cons rfl (fun K hK => ?_) (AllReadyH.cons rfl (fun K hK => ?_) AllReadyH.nil))
          · have hnews : ∀ (j : Nat) (q : Value), (V u)[j]? = some q → v3.cell? ((⟨Q0, p0, none⟩ : Addr).add j) = some q := fun j q hq => by
              have hj : j < m := by have := (List.getElem?_eq_some_iff.1 hq).1; rw [V_len, Q2.out] at this; exact this
              obtain ⟨g, off, u', e, _, h1, h2⟩ := (Srd.snd X1.out).at_ hj
              injection e with e; injection e with e1 e2 e3
              subst e1; subst e2
              rw [h1] at hq
              have : (⟨Q0, p0, none⟩ : Addr).add j = ⟨Q0, p0 + j, none⟩ := by simp [Addr.add]
              rw [this, h2, ← hq]
            have hws : v1.heap.size ≤ v3.heap.size := by omega
            refine step_append_lies v3 rfl _ _ 24 rfl v1.heap.size 3 i0 _ 1 8 Try.underlying24 hi0 hz0 hz1 hz2 rfl (by decide) _ 0 [] rfl Ob.out ⟨Q0, p0, none⟩ m d (V u) rfl (by rw [V_len, Q2.out, Nat.mul_one]) hnews (fun q hq => by obtain ⟨z, _, rfl⟩ := List.mem_map.1 hq; rfl) hN0 (by unfold maxLen; omega) (by omega) hws _ rfl ?_
            intro g4 c4 v4 ho hg hat hltb
            clear hnews
            have b2 : Below v1.heap.size v3 v4 := own_below Ob.out hg (Nat.le_refl _) hws
            rw [Nat.zero_add, List.nil_append] at ho
            rw [Nat.zero_add]
            have hatb : g4 = v1.heap.size ∨ g4 = v3.heap.size := by
              rcases hat with h | h
              · have h' : some v1.heap.size = some g4 := h
                injection h' with h'
                exact .inl h'.symm
              · exact .inr h
            replace Ra := Lib.hid (row_far Ob.out hg Ra.out (fun b hb => by have h' : some v1.heap.size = some b := hb; injection h' with h'; omega))
            have hHeld2 := Hld.later2 hHeld b2 (by omega) (by omega); clear hHeld
            replace X1 := Lib.hid (X1.out.keep (b2.mono (by have := X1.out.top; have := HX.out.top; omega)) (Nat.le_refl _))
            replace B1 := Lib.hid (B1.out.trans (b2.mono (by omega)))
            replace A1 := Lib.hid (A1.out.keep b2 (by omega))
            have Rb := Lib.hid ((Row.of_own ho).one hltb)
            have hcb := (own_cap ho).2
            have s_4 := b2.size
            clear ho hg hat b2 Ob
            refine hK.out _ _ hHeld2 (fun hHeld => ?_)
            clear hK K hHeld2
            refine wpAnyH_ready (rs := [8, 9]) (by kernel_rfl) (by simp) (AllReadyH.cons rfl (fun K hK => ?_) (AllReadyH.cons rfl (fun K hK => ?_) AllReadyH.nil))
            · refine step_build rfl 30 _ rfl [(0, .slice (some ⟨g3, 0, none⟩) m c3), (1, .slice (some ⟨g4, 0, none⟩) m c4)] rfl #[.slice (some ⟨g3, 0, none⟩) m c3, .slice (some ⟨g4, 0, none⟩) m c4] (built_two _ _ _ _ _ _) ?_
              refine hK.out _ _ hHeld (fun hHeld2 => ?_)
              have hHeld := hHeld2
              clear hK K hHeld2
              refine wpAnyH_ready (rs := [9]) (by kernel_rfl) (by simp) (AllReadyH.cons rfl (fun K hK => ?_) AllReadyH.nil)
              go_simp
              have b1 : Below v4.heap.size v4 (v4.alloc (.cells #[.slice none 0 0, .slice none 0 0] 30)) := (Below.refl _ _).alloc (Nat.le_refl _) _
              have s_6 : v4.heap.size < (v4.alloc (.cells #[.slice none 0 0, .slice none 0 0] 30)).heap.size := by simp
              have al := Lib.hid (Arr.new v4 [.slice none 0 0, .slice none 0 0] 30 rfl)
              replace X1 := Lib.hid (X1.out.keep b1 X1.out.top); replace B1 := Lib.hid (B1.out.trans (b1.mono B1.out.size)); replace A1 := Lib.hid (A1.out.keep b1 A1.out.lt)
              replace Ra := Lib.hid (Ra.out.keep b1 Ra.out.2.1)
              replace Rb := Lib.hid (Rb.out.keep b1 Rb.out.2.1)
              have hHeld2 := hHeld.later b1 (by omega); clear hHeld b1
              refine hK.out _ _ hHeld2 (fun hHeld => ?_)
              clear hK K hHeld2
              generalize v4.alloc (.cells #[.slice none 0 0, .slice none 0 0] 30) = v6 at *
              have AL := al; clear al
              refine wpAnyH_ready (rs := [10]) (by kernel_rfl) (by simp) (AllReadyH.cons rfl (fun K hK => ?_) AllReadyH.nil)
              refine step_store_row rfl 30 _ _ rfl (v4.heap.size) #[.slice (some ⟨g3, 0, none⟩) m c3, .slice (some ⟨g4, 0, none⟩) m c4] rfl rfl 30 #[.slice none 0 0, .slice none 0 0] AL.out size2 rfl (by simp [Value.oneCell']) ?_
              change K (Act.put _ none _) _
              simp only [Act.put]
              refine hK.out _ _ (hHeld.other (by omega) (by simp; omega) _) (fun hHeld2 => ?_)
              clear hK K hHeld hHeld2
              refine wpAnyH_done (by kernel_rfl) ?_ _
              go_wp2_with fail
              go_meet
              exact ⟨_, rfl, _, _, _, _, _, _, _, _, AL.out.row, row_set Ra.out (by omega) _, row_set Rb.out (by omega) _, hca, hcb, by omega, by omega, by omega, by omega, by omega, by omega, A1.out.rowOther (by omega), below_setRow B1.out (by omega) _⟩
            · go_simp
              have b1 : Below v4.heap.size v4 (v4.alloc (.cells #[.slice none 0 0, .slice none 0 0] 30)) := (Below.refl _ _).alloc (Nat.le_refl _) _
              have s_5 : v4.heap.size < (v4.alloc (.cells #[.slice none 0 0, .slice none 0 0] 30)).heap.size := by simp
              have al := Lib.hid (Arr.new v4 [.slice none 0 0, .slice none 0 0] 30 rfl)
              replace X1 := Lib.hid (X1.out.keep b1 X1.out.top); replace B1 := Lib.hid (B1.out.trans (b1.mono B1.out.size)); replace A1 := Lib.hid (A1.out.keep b1 A1.out.lt)
              replace Ra := Lib.hid (Ra.out.keep b1 Ra.out.2.1)
              replace Rb := Lib.hid (Rb.out.keep b1 Rb.out.2.1)
              have hHeld2 := hHeld.later b1 (by omega); clear hHeld b1
              refine hK.out _ _ hHeld2 (fun hHeld => ?_)
              clear hK K hHeld2
              generalize v4.alloc (.cells #[.slice none 0 0, .slice none 0 0] 30) = v5 at *
              have AL := al; clear al
              refine wpAnyH_ready (rs := [8]) (by kernel_rfl) (by simp) (AllReadyH.cons rfl (fun K hK => ?_) AllReadyH.nil)
              refine step_build rfl 30 _ rfl [(0, .slice (some ⟨g3, 0, none⟩) m c3), (1, .slice (some ⟨g4, 0, none⟩) m c4)] rfl #[.slice (some ⟨g3, 0, none⟩) m c3, .slice (some ⟨g4, 0, none⟩) m c4] (built_two _ _ _ _ _ _) ?_
              refine hK.out _ _ hHeld (fun hHeld2 => ?_)
              have hHeld := hHeld2
              clear hK K hHeld2
              refine wpAnyH_ready (rs := [10]) (by kernel_rfl) (by simp) (AllReadyH.cons rfl (fun K hK => ?_) AllReadyH.nil)
              refine step_store_row rfl 30 _ _ rfl (v4.heap.size) #[.slice (some ⟨g3, 0, none⟩) m c3, .slice (some ⟨g4, 0, none⟩) m c4] rfl rfl 30 #[.slice none 0 0, .slice none 0 0] AL.out size2 rfl (by simp [Value.oneCell']) ?_
              change K (Act.put (Act.put _ (some 15) _) none _) _
              simp only [Act.put, List.setIfInBounds_toArray, List.set_cons_zero, List.set_cons_succ]
              refine hK.out _ _ (hHeld.other (by omega) (by simp; omega) _) (fun hHeld2 => ?_)
              clear hK K hHeld hHeld2
              refine wpAnyH_done (by kernel_rfl) ?_ _
              go_wp2_with fail
              go_meet
              exact ⟨_, rfl, _, _, _, _, _, _, _, _, AL.out.row, row_set Ra.out (by omega) _, row_set Rb.out (by omega) _, hca, hcb, by omega, by omega, by omega, by omega, by omega, by omega, A1.out.rowOther (by omega), below_setRow B1.out (by omega) _⟩
          · go_simp
            have b1 : Below v3.heap.size v3 (v3.alloc (.cells #[.slice none 0 0, .slice none 0 0] 30)) := (Below.refl _ _).alloc (Nat.le_refl _) _
            have s_4 : v3.heap.size < (v3.alloc (.cells #[.slice none 0 0, .slice none 0 0] 30)).heap.size := by simp
            have al := Lib.hid (Arr.new v3 [.slice none 0 0, .slice none 0 0] 30 rfl)
            replace X1 := Lib.hid (X1.out.keep b1 X1.out.top); replace B1 := Lib.hid (B1.out.trans (b1.mono B1.out.size)); replace A1 := Lib.hid (A1.out.keep b1 A1.out.lt)
            replace Ob := Lib.hid (own_keep Ob.out b1 (by omega))
            replace Ra := Lib.hid (Ra.out.keep b1 Ra.out.2.1)
            have hHeld2 := hHeld.later b1 (by omega); clear hHeld b1
            refine hK.out _ _ hHeld2 (fun hHeld => ?_)
            clear hK K hHeld2
            generalize v3.alloc (.cells #[.slice none 0 0, .slice none 0 0] 30) = v4 at *
            have AL := al; clear al
            refine wpAnyH_ready (rs := [7]) (by kernel_rfl) (by simp) (AllReadyH.cons rfl (fun K hK => ?_) AllReadyH.nil)
            have hnews : ∀ (j : Nat) (q : Value), (V u)[j]? = some q → v4.cell? ((⟨Q0, p0, none⟩ : Addr).add j) = some q := fun j q hq => by
              have hj : j < m := by have := (List.getElem?_eq_some_iff.1 hq).1; rw [V_len, Q2.out] at this; exact this
              obtain ⟨g, off, u', e, _, h1, h2⟩ := (Srd.snd X1.out).at_ hj
              injection e with e; injection e with e1 e2 e3
              subst e1; subst e2
              rw [h1] at hq
              have : (⟨Q0, p0, none⟩ : Addr).add j = ⟨Q0, p0 + j, none⟩ := by simp [Addr.add]
              rw [this, h2, ← hq]
            have hws : v1.heap.size ≤ v4.heap.size := by omega
            refine step_append_lies v4 rfl _ _ 24 rfl v1.heap.size 3 i0 _ 1 8 Try.underlying24 hi0 hz0 hz1 hz2 rfl (by decide) _ 0 [] rfl Ob.out ⟨Q0, p0, none⟩ m d (V u) rfl (by rw [V_len, Q2.out, Nat.mul_one]) hnews (fun q hq => by obtain ⟨z, _, rfl⟩ := List.mem_map.1 hq; rfl) hN0 (by unfold maxLen; omega) (by omega) hws _ rfl ?_
            intro g4 c4 v5 ho hg hat hltb
            clear hnews
            have b2 : Below v1.heap.size v4 v5 := own_below Ob.out hg (Nat.le_refl _) hws
            rw [Nat.zero_add, List.nil_append] at ho
            rw [Nat.zero_add]
            have hatb : g4 = v1.heap.size ∨ g4 = v4.heap.size := by
              rcases hat with h | h
              · have h' : some v1.heap.size = some g4 := h
                injection h' with h'
                exact .inl h'.symm
              · exact .inr h
            replace Ra := Lib.hid (row_far Ob.out hg Ra.out (fun b hb => by have h' : some v1.heap.size = some b := hb; injection h' with h'; omega))
            replace AL := Lib.hid (arr_far AL.out hg (b := v1.heap.size) rfl (by omega))
            have hHeld2 := Hld.later2 hHeld b2 (by omega) (by omega); clear hHeld
            replace X1 := Lib.hid (X1.out.keep (b2.mono (by have := X1.out.top; have := HX.out.top; omega)) (Nat.le_refl _))
            replace B1 := Lib.hid (B1.out.trans (b2.mono (by omega)))
            replace A1 := Lib.hid (A1.out.keep b2 (by omega))
            have Rb := Lib.hid ((Row.of_own ho).one hltb)
            have hcb := (own_cap ho).2
            have s_5 := b2.size
            clear ho hg hat b2 Ob
            refine hK.out _ _ hHeld2 (fun hHeld => ?_)
            clear hK K hHeld2
            refine wpAnyH_ready (rs := [8]) (by kernel_rfl) (by simp) (AllReadyH.cons rfl (fun K hK => ?_) AllReadyH.nil)
            refine step_build rfl 30 _ rfl [(0, .slice (some ⟨g3, 0, none⟩) m c3), (1, .slice (some ⟨g4, 0, none⟩) m c4)] rfl #[.slice (some ⟨g3, 0, none⟩) m c3, .slice (some ⟨g4, 0, none⟩) m c4] (built_two _ _ _ _ _ _) ?_
            refine hK.out _ _ hHeld (fun hHeld2 => ?_)
            have hHeld := hHeld2
            clear hK K hHeld2
            refine wpAnyH_ready (rs := [10]) (by kernel_rfl) (by simp) (AllReadyH.cons rfl (fun K hK => ?_) AllReadyH.nil)
            refine step_store_row rfl 30 _ _ rfl (v3.heap.size) #[.slice (some ⟨g3, 0, none⟩) m c3, .slice (some ⟨g4, 0, none⟩) m c4] rfl rfl 30 #[.slice none 0 0, .slice none 0 0] AL.out size2 rfl (by simp [Value.oneCell']) ?_
            change K (Act.put (Act.put (Act.put _ (some 14) _) (some 15) _) none _) _
            simp only [Act.put, List.setIfInBounds_toArray, List.set_cons_zero, List.set_cons_succ]
            refine hK.out _ _ (hHeld.other (by omega) (by simp; omega) _) (fun hHeld2 => ?_)
            clear hK K hHeld hHeld2
            refine wpAnyH_done (by kernel_rfl) ?_ _
            go_wp2_with fail
            go_meet
            exact ⟨_, rfl, _, _, _, _, _, _, _, _, AL.out.row, row_set Ra.out (by omega) _, row_set Rb.out (by omega) _, hca, hcb, by omega, by omega, by omega, by omega, by omega, by omega, A1.out.rowOther (by omega), below_setRow B1.out (by omega) _⟩
        · go_simp
          have b1 : Below v2.heap.size v2 (v2.alloc (.cells #[.slice none 0 0, .slice none 0 0] 30)) := (Below.refl _ _).alloc (Nat.le_refl _) _
          have s_3 : v2.heap.size < (v2.alloc (.cells #[.slice none 0 0, .slice none 0 0] 30)).heap.size := by simp
          have al := Lib.hid (Arr.new v2 [.slice none 0 0, .slice none 0 0] 30 rfl)
          replace X1 := Lib.hid (X1.out.keep b1 X1.out.top); replace B1 := Lib.hid (B1.out.trans (b1.mono B1.out.size)); replace A1 := Lib.hid (A1.out.keep b1 A1.out.lt)
          replace Oa := Lib.hid (own_keep Oa.out b1 (by omega))
          replace Ob := Lib.hid (own_keep Ob.out b1 (by omega))
          have hHeld2 := hHeld.later b1 (by omega); clear hHeld b1
          refine hK.out _ _ hHeld2 (fun hHeld => ?_)
          clear hK K hHeld2
          generalize v2.alloc (.cells #[.slice none 0 0, .slice none 0 0] 30) = v3 at *
          have AL := al; clear al
          refine wpAnyH_ready (rs := [3]) (by kernel_rfl) (by simp) (AllReadyH.cons rfl (fun K hK => ?_) AllReadyH.nil)
          have hnews : ∀ (j : Nat) (q : Value), (V r)[j]? = some q → v3.cell? ((⟨P0, o0, none⟩ : Addr).add j) = some q := fun j q hq => by
            have hj : j < m := by have := (List.getElem?_eq_some_iff.1 hq).1; rw [V_len, Q1.out] at this; exact this
            obtain ⟨g, off, u', e, _, h1, h2⟩ := (Srd.fst X1.out).at_ hj
            injection e with e; injection e with e1 e2 e3
            subst e1; subst e2
            rw [h1] at hq
            have : (⟨P0, o0, none⟩ : Addr).add j = ⟨P0, o0 + j, none⟩ := by simp [Addr.add]
            rw [this, h2, ← hq]
          have hws : w2.heap.size ≤ v3.heap.size := by omega
          refine step_append_lies v3 rfl _ _ 24 rfl w2.heap.size 3 i0 _ 1 8 Try.underlying24 hi0 hz0 hz1 hz2 rfl (by decide) _ 0 [] rfl Oa.out ⟨P0, o0, none⟩ m c (V r) rfl (by rw [V_len, Q1.out, Nat.mul_one]) hnews (fun q hq => by obtain ⟨z, _, rfl⟩ := List.mem_map.1 hq; rfl) hN0 (by unfold maxLen; omega) (by omega) hws _ rfl ?_
          intro g3 c3 v4 ho hg hat hlta
          clear hnews
          have b2 : Below w2.heap.size v3 v4 := own_below Oa.out hg (Nat.le_refl _) hws
          rw [Nat.zero_add, List.nil_append] at ho
          rw [Nat.zero_add]
          have hata : g3 = w2.heap.size ∨ g3 = v3.heap.size := by
            rcases hat with h | h
            · have h' : some w2.heap.size = some g3 := h
              injection h' with h'
              exact .inl h'.symm
            · exact .inr h
          replace Ob := Lib.hid (own_far Ob.out hg (b := w2.heap.size) rfl (by omega))
          replace AL := Lib.hid (arr_far AL.out hg (b := w2.heap.size) rfl (by omega))
          have hHeld2 := Hld.later2 hHeld b2 (by omega) (by omega); clear hHeld
          replace X1 := Lib.hid (X1.out.keep (b2.mono (by have := X1.out.top; have := HX.out.top; omega)) (Nat.le_refl _))
          replace B1 := Lib.hid (B1.out.trans (b2.mono (by omega)))
          replace A1 := Lib.hid (A1.out.keep b2 (by omega))
          have Ra := Lib.hid ((Row.of_own ho).one hlta)
          have hca := (own_cap ho).2
          have s_4 := b2.size
          clear ho hg hat b2 Oa
          refine hK.out _ _ hHeld2 (fun hHeld => ?_)
          clear hK K hHeld2
          refine wpAnyH_ready (rs := [7]) (by kernel_rfl) (by simp) (AllReadyH.cons rfl (fun K hK => ?_) AllReadyH.nil)
          have hnews : ∀ (j : Nat) (q : Value), (V u)[j]? = some q → v4.cell? ((⟨Q0, p0, none⟩ : Addr).add j) = some q := fun j q hq => by
            have hj : j < m := by have := (List.getElem?_eq_some_iff.1 hq).1; rw [V_len, Q2.out] at this; exact this
            obtain ⟨g, off, u', e, _, h1, h2⟩ := (Srd.snd X1.out).at_ hj
            injection e with e; injection e with e1 e2 e3
            subst e1; subst e2
            rw [h1] at hq
            have : (⟨Q0, p0, none⟩ : Addr).add j = ⟨Q0, p0 + j, none⟩ := by simp [Addr.add]
            rw [this, h2, ← hq]
          have hws : v1.heap.size ≤ v4.heap.size := by omega
          refine step_append_lies v4 rfl _ _ 24 rfl v1.heap.size 3 i0 _ 1 8 Try.underlying24 hi0 hz0 hz1 hz2 rfl (by decide) _ 0 [] rfl Ob.out ⟨Q0, p0, none⟩ m d (V u) rfl (by rw [V_len, Q2.out, Nat.mul_one]) hnews (fun q hq => by obtain ⟨z, _, rfl⟩ := List.mem_map.1 hq; rfl) hN0 (by unfold maxLen; omega) (by omega) hws _ rfl ?_
          intro g4 c4 v5 ho hg hat hltb
          clear hnews
          have b2 : Below v1.heap.size v4 v5 := own_below Ob.out hg (Nat.le_refl _) hws
          rw [Nat.zero_add, List.nil_append] at ho
          rw [Nat.zero_add]
          have hatb : g4 = v1.heap.size ∨ g4 = v4.heap.size := by
            rcases hat with h | h
            · have h' : some v1.heap.size = some g4 := h
              injection h' with h'
              exact .inl h'.symm
            · exact .inr h
          replace Ra := Lib.hid (row_far Ob.out hg Ra.out (fun b hb => by have h' : some v1.heap.size = some b := hb; injection h' with h'; omega))
          replace AL := Lib.hid (arr_far AL.out hg (b := v1.heap.size) rfl (by omega))
          have hHeld2 := Hld.later2 hHeld b2 (by omega) (by omega); clear hHeld
          replace X1 := Lib.hid (X1.out.keep (b2.mono (by have := X1.out.top; have := HX.out.top; omega)) (Nat.le_refl _))
          replace B1 := Lib.hid (B1.out.trans (b2.mono (by omega)))
          replace A1 := Lib.hid (A1.out.keep b2 (by omega))
          have Rb := Lib.hid ((Row.of_own ho).one hltb)
          have hcb := (own_cap ho).2
          have s_5 := b2.size
          clear ho hg hat b2 Ob
          refine hK.out _ _ hHeld2 (fun hHeld => ?_)
          clear hK K hHeld2
          refine wpAnyH_ready (rs := [8]) (by kernel_rfl) (by simp) (AllReadyH.cons rfl (fun K hK => ?_) AllReadyH.nil)
          refine step_build rfl 30 _ rfl [(0, .slice (some ⟨g3, 0, none⟩) m c3), (1, .slice (some ⟨g4, 0, none⟩) m c4)] rfl #[.slice (some ⟨g3, 0, none⟩) m c3, .slice (some ⟨g4, 0, none⟩) m c4] (built_two _ _ _ _ _ _) ?_
          refine hK.out _ _ hHeld (fun hHeld2 => ?_)
          have hHeld := hHeld2
          clear hK K hHeld2
          refine wpAnyH_ready (rs := [10]) (by kernel_rfl) (by simp) (AllReadyH.cons rfl (fun K hK => ?_) AllReadyH.nil)
          refine step_store_row rfl 30 _ _ rfl (v2.heap.size) #[.slice (some ⟨g3, 0, none⟩) m c3, .slice (some ⟨g4, 0, none⟩) m c4] rfl rfl 30 #[.slice none 0 0, .slice none 0 0] AL.out size2 rfl (by simp [Value.oneCell']) ?_
          change K (Act.put (Act.put (Act.put (Act.put _ (some 10) _) (some 14) _) (some 15) _) none _) _
          simp only [Act.put, List.setIfInBounds_toArray, List.set_cons_zero, List.set_cons_succ]
          refine hK.out _ _ (hHeld.other (by omega) (by simp; omega) _) (fun hHeld2 => ?_)
          clear hK K hHeld hHeld2
          refine wpAnyH_done (by kernel_rfl) ?_ _
          go_wp2_with fail
          go_meet
          exact ⟨_, rfl, _, _, _, _, _, _, _, _, AL.out.row, row_set Ra.out (by omega) _, row_set Rb.out (by omega) _, hca, hcb, by omega, by omega, by omega, by omega, by omega, by omega, A1.out.rowOther (by omega), below_setRow B1.out (by omega) _⟩
      · go_simp
        have b1 : Below v1.heap.size v1 (v1.alloc (.cells #[.slice none 0 0, .slice none 0 0] 30)) := (Below.refl _ _).alloc (Nat.le_refl _) _
        have s_2 : v1.heap.size < (v1.alloc (.cells #[.slice none 0 0, .slice none 0 0] 30)).heap.size := by simp
        have al := Lib.hid (Arr.new v1 [.slice none 0 0, .slice none 0 0] 30 rfl)
        replace X1 := Lib.hid (X1.out.keep b1 X1.out.top); replace B1 := Lib.hid (B1.out.trans (b1.mono B1.out.size)); replace A1 := Lib.hid (A1.out.keep b1 A1.out.lt)
        replace Oa := Lib.hid (own_keep Oa.out b1 (by omega))
        have hHeld2 := hHeld.later b1 (by omega); clear hHeld b1
        refine hK.out _ _ hHeld2 (fun hHeld => ?_)
        clear hK K hHeld2
        generalize v1.alloc (.cells #[.slice none 0 0, .slice none 0 0] 30) = v2 at *
        have AL := al; clear al
        refine wpAnyH_ready (rs := [3, 4]) (by kernel_rfl) (by simp) (AllReadyH.cons rfl (fun K hK => ?_) (AllReadyH.cons rfl (fun K hK => ?_) AllReadyH.nil))
        · have hnews : ∀ (j : Nat) (q : Value), (V r)[j]? = some q → v2.cell? ((⟨P0, o0, none⟩ : Addr).add j) = some q := fun j q hq => by
            have hj : j < m := by have := (List.getElem?_eq_some_iff.1 hq).1; rw [V_len, Q1.out] at this; exact this
            obtain ⟨g, off, u', e, _, h1, h2⟩ := (Srd.fst X1.out).at_ hj
            injection e with e; injection e with e1 e2 e3
            subst e1; subst e2
            rw [h1] at hq
            have : (⟨P0, o0, none⟩ : Addr).add j = ⟨P0, o0 + j, none⟩ := by simp [Addr.add]
            rw [this, h2, ← hq]
          have hws : w2.heap.size ≤ v2.heap.size := by omega
          refine step_append_lies v2 rfl _ _ 24 rfl w2.heap.size 3 i0 _ 1 8 Try.underlying24 hi0 hz0 hz1 hz2 rfl (by decide) _ 0 [] rfl Oa.out ⟨P0, o0, none⟩ m c (V r) rfl (by rw [V_len, Q1.out, Nat.mul_one]) hnews (fun q hq => by obtain ⟨z, _, rfl⟩ := List.mem_map.1 hq; rfl) hN0 (by unfold maxLen; omega) (by omega) hws _ rfl ?_
          intro g3 c3 v3 ho hg hat hlta
          clear hnews
          have b2 : Below w2.heap.size v2 v3 := own_below Oa.out hg (Nat.le_refl _) hws
          rw [Nat.zero_add, List.nil_append] at ho
          rw [Nat.zero_add]
          have hata : g3 = w2.heap.size ∨ g3 = v2.heap.size := by
            rcases hat with h | h
            · have h' : some w2.heap.size = some g3 := h
              injection h' with h'
              exact .inl h'.symm
            · exact .inr h
          replace AL := Lib.hid (arr_far AL.out hg (b := w2.heap.size) rfl (by omega))
          have hHeld2 := Hld.later2 hHeld b2 (by omega) (by omega); clear hHeld
          replace X1 := Lib.hid (X1.out.keep (b2.mono (by have := X1.out.top; have := HX.out.top; omega)) (Nat.le_refl _))
          replace B1 := Lib.hid (B1.out.trans (b2.mono (by omega)))
          replace A1 := Lib.hid (A1.out.keep b2 (by omega))
          have Ra := Lib.hid ((Row.of_own ho).one hlta)
          have hca := (own_cap ho).2
          have s_3 := b2.size
          clear ho hg hat b2 Oa
          refine hK.out _ _ hHeld2 (fun hHeld => ?_)
          clear hK K hHeld2
          refine wpAnyH_ready (rs := [4]) (by kernel_rfl) (by simp) (AllReadyH.cons rfl (fun K hK => ?_) AllReadyH.nil)
          go_simp
          have b1 : Below v3.heap.size v3 (v3.alloc (.cells #[] 3)) := (Below.refl _ _).alloc (Nat.le_refl _) _
          have s_4 : v3.heap.size < (v3.alloc (.cells #[] 3)).heap.size := by simp
          have ob := Lib.hid (Grows.empty v3).own
          replace X1 := Lib.hid (X1.out.keep b1 X1.out.top); replace B1 := Lib.hid (B1.out.trans (b1.mono B1.out.size)); replace A1 := Lib.hid (A1.out.keep b1 A1.out.lt)
          replace Ra := Lib.hid (Ra.out.keep b1 Ra.out.2.1)
          replace AL := Lib.hid (AL.out.keep b1 AL.out.lt)
          have hHeld2 := hHeld.later b1 (by omega); clear hHeld b1
          refine hK.out _ _ hHeld2 (fun hHeld => ?_)
          clear hK K hHeld2
          generalize v3.alloc (.cells #[] 3) = v4 at *
          have Ob := ob; clear ob
          refine wpAnyH_ready (rs := [7]) (by kernel_rfl) (by simp) (AllReadyH.cons rfl (fun K hK => ?_) AllReadyH.nil)
          have hnews : ∀ (j : Nat) (q : Value), (V u)[j]? = some q → v4.cell? ((⟨Q0, p0, none⟩ : Addr).add j) = some q := fun j q hq => by
            have hj : j < m := by have := (List.getElem?_eq_some_iff.1 hq).1; rw [V_len, Q2.out] at this; exact this
            obtain ⟨g, off, u', e, _, h1, h2⟩ := (Srd.snd X1.out).at_ hj
            injection e with e; injection e with e1 e2 e3
            subst e1; subst e2
            rw [h1] at hq
            have : (⟨Q0, p0, none⟩ : Addr).add j = ⟨Q0, p0 + j, none⟩ := by simp [Addr.add]
            rw [this, h2, ← hq]
          have hws : v3.heap.size ≤ v4.heap.size := by omega
          refine step_append_lies v4 rfl _ _ 24 rfl v3.heap.size 3 i0 _ 1 8 Try.underlying24 hi0 hz0 hz1 hz2 rfl (by decide) _ 0 [] rfl Ob.out ⟨Q0, p0, none⟩ m d (V u) rfl (by rw [V_len, Q2.out, Nat.mul_one]) hnews (fun q hq => by obtain ⟨z, _, rfl⟩ := List.mem_map.1 hq; rfl) hN0 (by unfold maxLen; omega) (by omega) hws _ rfl ?_
          intro g4 c4 v5 ho hg hat hltb
          clear hnews
          have b2 : Below v3.heap.size v4 v5 := own_below Ob.out hg (Nat.le_refl _) hws
          rw [Nat.zero_add, List.nil_append] at ho
          rw [Nat.zero_add]
          have hatb : g4 = v3.heap.size ∨ g4 = v4.heap.size := by
            rcases hat with h | h
            · have h' : some v3.heap.size = some g4 := h
              injection h' with h'
              exact .inl h'.symm
            · exact .inr h
          replace Ra := Lib.hid (row_far Ob.out hg Ra.out (fun b hb => by have h' : some v3.heap.size = some b := hb; injection h' with h'; omega))
          replace AL := Lib.hid (arr_far AL.out hg (b := v3.heap.size) rfl (by omega))
          have hHeld2 := Hld.later2 hHeld b2 (by omega) (by omega); clear hHeld
          replace X1 := Lib.hid (X1.out.keep (b2.mono (by have := X1.out.top; have := HX.out.top; omega)) (Nat.le_refl _))
          replace B1 := Lib.hid (B1.out.trans (b2.mono (by omega)))
          replace A1 := Lib.hid (A1.out.keep b2 (by omega))
          have Rb := Lib.hid ((Row.of_own ho).one hltb)
          have hcb := (own_cap ho).2
          have s_5 := b2.size
          clear ho hg hat b2 Ob
          refine hK.out _ _ hHeld2 (fun hHeld => ?_)
          clear hK K hHeld2
          refine wpAnyH_ready (rs := [8]) (by kernel_rfl) (by simp) (AllReadyH.cons rfl (fun K hK => ?_) AllReadyH.nil)
          refine step_build rfl 30 _ rfl [(0, .slice (some ⟨g3, 0, none⟩) m c3), (1, .slice (some ⟨g4, 0, none⟩) m c4)] rfl #[.slice (some ⟨g3, 0, none⟩) m c3, .slice (some ⟨g4, 0, none⟩) m c4] (built_two _ _ _ _ _ _) ?_
          refine hK.out _ _ hHeld (fun hHeld2 => ?_)
          have hHeld := hHeld2
          clear hK K hHeld2
          refine wpAnyH_ready (rs := [10]) (by kernel_rfl) (by simp) (AllReadyH.cons rfl (fun K hK => ?_) AllReadyH.nil)
          refine step_store_row rfl 30 _ _ rfl (v1.heap.size) #[.slice (some ⟨g3, 0, none⟩) m c3, .slice (some ⟨g4, 0, none⟩) m c4] rfl rfl 30 #[.slice none 0 0, .slice none 0 0] AL.out size2 rfl (by simp [Value.oneCell']) ?_
          change K (Act.put (Act.put (Act.put _ (some 14) _) (some 15) _) none _) _
          simp only [Act.put, List.setIfInBounds_toArray, List.set_cons_zero, List.set_cons_succ]
          refine hK.out _ _ (hHeld.other (by omega) (by simp; omega) _) (fun hHeld2 => ?_)
          clear hK K hHeld hHeld2
          refine wpAnyH_done (by kernel_rfl) ?_ _
          go_wp2_with fail
          go_meet
          exact ⟨_, rfl, _, _, _, _, _, _, _, _, AL.out.row, row_set Ra.out (by omega) _, row_set Rb.out (by omega) _, hca, hcb, by omega, by omega, by omega, by omega, by omega, by omega, A1.out.rowOther (by omega), below_setRow B1.out (by omega) _⟩
        · go_simp
          have b1 : Below v2.heap.size v2 (v2.alloc (.cells #[] 3)) := (Below.refl _ _).alloc (Nat.le_refl _) _
          have s_3 : v2.heap.size < (v2.alloc (.cells #[] 3)).heap.size := by simp
          have ob := Lib.hid (Grows.empty v2).own
          replace X1 := Lib.hid (X1.out.keep b1 X1.out.top); replace B1 := Lib.hid (B1.out.trans (b1.mono B1.out.size)); replace A1 := Lib.hid (A1.out.keep b1 A1.out.lt)
          replace Oa := Lib.hid (own_keep Oa.out b1 (by omega))
          replace AL := Lib.hid (AL.out.keep b1 AL.out.lt)
          have hHeld2 := hHeld.later b1 (by omega); clear hHeld b1
          refine hK.out _ _ hHeld2 (fun hHeld => ?_)
          clear hK K hHeld2
          generalize v2.alloc (.cells #[] 3) = v3 at *
          have Ob := ob; clear ob
          refine wpAnyH_ready (rs := [3]) (by kernel_rfl) (by simp) (AllReadyH.cons rfl (fun K hK => ?_) AllReadyH.nil)
          have hnews : ∀ (j : Nat) (q : Value), (V r)[j]? = some q → v3.cell? ((⟨P0, o0, none⟩ : Addr).add j) = some q := fun j q hq => by
            have hj : j < m := by have := (List.getElem?_eq_some_iff.1 hq).1; rw [V_len, Q1.out] at this; exact this
            obtain ⟨g, off, u', e, _, h1, h2⟩ := (Srd.fst X1.out).at_ hj
            injection e with e; injection e with e1 e2 e3
            subst e1; subst e2
            rw [h1] at hq
            have : (⟨P0, o0, none⟩ : Addr).add j = ⟨P0, o0 + j, none⟩ := by simp [Addr.add]
            rw [this, h2, ← hq]
          have hws : w2.heap.size ≤ v3.heap.size := by omega
          refine step_append_lies v3 rfl _ _ 24 rfl w2.heap.size 3 i0 _ 1 8 Try.underlying24 hi0 hz0 hz1 hz2 rfl (by decide) _ 0 [] rfl Oa.out ⟨P0, o0, none⟩ m c (V r) rfl (by rw [V_len, Q1.out, Nat.mul_one]) hnews (fun q hq => by obtain ⟨z, _, rfl⟩ := List.mem_map.1 hq; rfl) hN0 (by unfold maxLen; omega) (by omega) hws _ rfl ?_
          intro g3 c3 v4 ho hg hat hlta
          clear hnews
          have b2 : Below w2.heap.size v3 v4 := own_below Oa.out hg (Nat.le_refl _) hws
          rw [Nat.zero_add, List.nil_append] at ho
          rw [Nat.zero_add]
          have hata : g3 = w2.heap.size ∨ g3 = v3.heap.size := by
            rcases hat with h | h
            · have h' : some w2.heap.size = some g3 := h
              injection h' with h'
              exact .inl h'.symm
            · exact .inr h
          replace Ob := Lib.hid (own_far Ob.out hg (b := w2.heap.size) rfl (by omega))
          replace AL := Lib.hid (arr_far AL.out hg (b := w2.heap.size) rfl (by omega))
          have hHeld2 := Hld.later2 hHeld b2 (by omega) (by omega); clear hHeld
          replace X1 := Lib.hid (X1.out.keep (b2.mono (by have := X1.out.top; have := HX.out.top; omega)) (Nat.le_refl _))
          replace B1 := Lib.hid (B1.out.trans (b2.mono (by omega)))
          replace A1 := Lib.hid (A1.out.keep b2 (by omega))
          have Ra := Lib.hid ((Row.of_own ho).one hlta)
          have hca := (own_cap ho).2
          have s_4 := b2.size
          clear ho hg hat b2 Oa
          refine hK.out _ _ hHeld2 (fun hHeld => ?_)
          clear hK K hHeld2
          refine wpAnyH_ready (rs := [7]) (by kernel_rfl) (by simp) (AllReadyH.cons rfl (fun K hK => ?_) AllReadyH.nil)
          have hnews : ∀ (j : Nat) (q : Value), (V u)[j]? = some q → v4.cell? ((⟨Q0, p0, none⟩ : Addr).add j) = some q := fun j q hq => by
            have hj : j < m := by have := (List.getElem?_eq_some_iff.1 hq).1; rw [V_len, Q2.out] at this; exact this
            obtain ⟨g, off, u', e, _, h1, h2⟩ := (Srd.snd X1.out).at_ hj
            injection e with e; injection e with e1 e2 e3
            subst e1; subst e2
            rw [h1] at hq
            have : (⟨Q0, p0, none⟩ : Addr).add j = ⟨Q0, p0 + j, none⟩ := by simp [Addr.add]
            rw [this, h2, ← hq]
          have hws : v2.heap.size ≤ v4.heap.size := by omega
          refine step_append_lies v4 rfl _ _ 24 rfl v2.heap.size 3 i0 _ 1 8 Try.underlying24 hi0 hz0 hz1 hz2 rfl (by decide) _ 0 [] rfl Ob.out ⟨Q0, p0, none⟩ m d (V u) rfl (by rw [V_len, Q2.out, Nat.mul_one]) hnews (fun q hq => by obtain ⟨z, _, rfl⟩ := List.mem_map.1 hq; rfl) hN0 (by unfold maxLen; omega) (by omega) hws _ rfl ?_
          intro g4 c4 v5 ho hg hat hltb
          clear hnews
          have b2 : Below v2.heap.size v4 v5 := own_below Ob.out hg (Nat.le_refl _) hws
          rw [Nat.zero_add, List.nil_append] at ho
          rw [Nat.zero_add]
          have hatb : g4 = v2.heap.size ∨ g4 = v4.heap.size := by
            rcases hat with h | h
            · have h' : some v2.heap.size = some g4 := h
              injection h' with h'
              exact .inl h'.symm
            · exact .inr h
          replace Ra := Lib.hid (row_far Ob.out hg Ra.out (fun b hb => by have h' : some v2.heap.size = some b := hb; injection h' with h'; omega))
          replace AL := Lib.hid (arr_far AL.out hg (b := v2.heap.size) rfl (by omega))
          have hHeld2 := Hld.later2 hHeld b2 (by omega) (by omega); clear hHeld
          replace X1 := Lib.hid (X1.out.keep (b2.mono (by have := X1.out.top; have := HX.out.top; omega)) (Nat.le_refl _))
          replace B1 := Lib.hid (B1.out.trans (b2.mono (by omega)))
          replace A1 := Lib.hid (A1.out.keep b2 (by omega))
          have Rb := Lib.hid ((Row.of_own ho).one hltb)
          have hcb := (own_cap ho).2
          have s_5 := b2.size
          clear ho hg hat b2 Ob
          refine hK.out _ _ hHeld2 (fun hHeld => ?_)
          clear hK K hHeld2
          refine wpAnyH_ready (rs := [8]) (by kernel_rfl) (by simp) (AllReadyH.cons rfl (fun K hK => ?_) AllReadyH.nil)
          refine step_build rfl 30 _ rfl [(0, .slice (some ⟨g3, 0, none⟩) m c3), (1, .slice (some ⟨g4, 0, none⟩) m c4)] rfl #[.slice (some ⟨g3, 0, none⟩) m c3, .slice (some ⟨g4, 0, none⟩) m c4] (built_two _ _ _ _ _ _) ?_
          refine hK.out _ _ hHeld (fun hHeld2 => ?_)
          have hHeld := hHeld2
          clear hK K hHeld2
          refine wpAnyH_ready (rs := [10]) (by kernel_rfl) (by simp) (AllReadyH.cons rfl (fun K hK => ?_) AllReadyH.nil)
          refine step_store_row rfl 30 _ _ rfl (v1.heap.size) #[.slice (some ⟨g3, 0, none⟩) m c3, .slice (some ⟨g4, 0, none⟩) m c4] rfl rfl 30 #[.slice none 0 0, .slice none 0 0] AL.out size2 rfl (by simp [Value.oneCell']) ?_
          change K (Act.put (Act.put (Act.put (Act.put _ (some 10) _) (some 14) _) (some 15) _) none _) _
          simp only [Act.put, List.setIfInBounds_toArray, List.set_cons_zero, List.set_cons_succ]
          refine hK.out _ _ (hHeld.other (by omega) (by simp; omega) _) (fun hHeld2 => ?_)
          clear hK K hHeld hHeld2
          refine wpAnyH_done (by kernel_rfl) ?_ _
          go_wp2_with fail
          go_meet
          exact ⟨_, rfl, _, _, _, _, _, _, _, _, AL.out.row, row_set Ra.out (by omega) _, row_set Rb.out (by omega) _, hca, hcb, by omega, by omega, by omega, by omega, by omega, by omega, A1.out.rowOther (by omega), below_setRow B1.out (by omega) _⟩
    · go_simp
      have b1 : Below w2.heap.size w2 (w2.alloc (.cells #[] 3)) := (Below.refl _ _).alloc (Nat.le_refl _) _
      have s_1 : w2.heap.size < (w2.alloc (.cells #[] 3)).heap.size := by simp
      have ob := Lib.hid (Grows.empty w2).own
      replace X1 := Lib.hid (X1.out.keep b1 X1.out.top); replace B1 := Lib.hid (B1.out.trans (b1.mono B1.out.size)); replace A1 := Lib.hid (A1.out.keep b1 A1.out.lt)
      have hHeld2 := hHeld.later b1 (by omega); clear hHeld b1
      refine hK.out _ _ hHeld2 (fun hHeld => ?_)
      clear hK K hHeld2
      generalize w2.alloc (.cells #[] 3) = v1 at *
      have Ob := ob; clear ob
      refine wpAnyH_ready (rs := [0, 9]) (by kernel_rfl) (by simp) (AllReadyH.cons rfl (fun K hK => ?_) (AllReadyH.cons rfl (fun K hK => ?_) AllReadyH.nil))
      · go_simp
        have b1 : Below v1.heap.size v1 (v1.alloc (.cells #[] 3)) := (Below.refl _ _).alloc (Nat.le_refl _) _
        have s_2 : v1.heap.size < (v1.alloc (.cells #[] 3)).heap.size := by simp
        have oa := Lib.hid (Grows.empty v1).own
        replace X1 := Lib.hid (X1.out.keep b1 X1.out.top); replace B1 := Lib.hid (B1.out.trans (b1.mono B1.out.size)); replace A1 := Lib.hid (A1.out.keep b1 A1.out.lt)
        replace Ob := Lib.hid (own_keep Ob.out b1 (by omega))
        have hHeld2 := hHeld.later b1 (by omega); clear hHeld b1
        refine hK.out _ _ hHeld2 (fun hHeld => ?_)
        clear hK K hHeld2
        generalize v1.alloc (.cells #[] 3) = v2 at *
        have Oa := oa; clear oa
        refine wpAnyH_ready (rs := [3, 9]) (by kernel_rfl) (by simp) (AllReadyH.cons rfl (fun K hK => ?_) (AllReadyH.cons rfl (fun K hK => ?_) AllReadyH.nil))
        · have hnews : ∀ (j : Nat) (q : Value), (V r)[j]? = some q → v2.cell? ((⟨P0, o0, none⟩ : Addr).add j) = some q := fun j q hq => by
            have hj : j < m := by have := (List.getElem?_eq_some_iff.1 hq).1; rw [V_len, Q1.out] at this; exact this
            obtain ⟨g, off, u', e, _, h1, h2⟩ := (Srd.fst X1.out).at_ hj
            injection e with e; injection e with e1 e2 e3
            subst e1; subst e2
            rw [h1] at hq
            have : (⟨P0, o0, none⟩ : Addr).add j = ⟨P0, o0 + j, none⟩ := by simp [Addr.add]
            rw [this, h2, ← hq]
          have hws : v1.heap.size ≤ v2.heap.size := by omega
          refine step_append_lies v2 rfl _ _ 24 rfl v1.heap.size 3 i0 _ 1 8 Try.underlying24 hi0 hz0 hz1 hz2 rfl (by decide) _ 0 [] rfl Oa.out ⟨P0, o0, none⟩ m c (V r) rfl (by rw [V_len, Q1.out, Nat.mul_one]) hnews (fun q hq => by obtain ⟨z, _, rfl⟩ := List.mem_map.1 hq; rfl) hN0 (by unfold maxLen; omega) (by omega) hws _ rfl ?_
          intro g3 c3 v3 ho hg hat hlta
          clear hnews
          have b2 : Below v1.heap.size v2 v3 := own_below Oa.out hg (Nat.le_refl _) hws
          rw [Nat.zero_add, List.nil_append] at ho
          rw [Nat.zero_add]
          have hata : g3 = v1.heap.size ∨ g3 = v2.heap.size := by
            rcases hat with h | h
            · have h' : some v1.heap.size = some g3 := h
              injection h' with h'
              exact .inl h'.symm
            · exact .inr h
          replace Ob := Lib.hid (own_far Ob.out hg (b := v1.heap.size) rfl (by omega))
          have hHeld2 := Hld.later2 hHeld b2 (by omega) (by omega); clear hHeld
          replace X1 := Lib.hid (X1.out.keep (b2.mono (by have := X1.out.top; have := HX.out.top; omega)) (Nat.le_refl _))
          replace B1 := Lib.hid (B1.out.trans (b2.mono (by omega)))
          replace A1 := Lib.hid (A1.out.keep b2 (by omega))
          have Ra := Lib.hid ((Row.of_own ho).one hlta)
          have hca := (own_cap ho).2
          have s_3 := b2.size
          clear ho hg hat b2 Oa
          refine hK.out _ _ hHeld2 (fun hHeld => ?_)
          clear hK K hHeld2
          refine wpAnyH_ready (rs := [7, 9]) (by kernel_rfl) (by simp) (AllReadyH.cons rfl (fun K hK => ?_) (AllReadyH.cons rfl (fun K hK => ?_) AllReadyH.nil))
          · have hnews : ∀ (j : Nat) (q : Value), (V u)[j]? = some q → v3.cell? ((⟨Q0, p0, none⟩ : Addr).add j) = some q := fun j q hq => by
              have hj : j < m := by have := (List.getElem?_eq_some_iff.1 hq).1; rw [V_len, Q2.out] at this; exact this
              obtain ⟨g, off, u', e, _, h1, h2⟩ := (Srd.snd X1.out).at_ hj
              injection e with e; injection e with e1 e2 e3
              subst e1; subst e2
              rw [h1] at hq
              have : (⟨Q0, p0, none⟩ : Addr).add j = ⟨Q0, p0 + j, none⟩ := by simp [Addr.add]
              rw [this, h2, ← hq]
            have hws : w2.heap.size ≤ v3.heap.size := by omega
            refine step_append_lies v3 rfl _ _ 24 rfl w2.heap.size 3 i0 _ 1 8 Try.underlying24 hi0 hz0 hz1 hz2 rfl (by decide) _ 0 [] rfl Ob.out ⟨Q0, p0, none⟩ m d (V u) rfl (by rw [V_len, Q2.out, Nat.mul_one]) hnews (fun q hq => by obtain ⟨z, _, rfl⟩ := List.mem_map.1 hq; rfl) hN0 (by unfold maxLen; omega) (by omega) hws _ rfl ?_
            intro g4 c4 v4 ho hg hat hltb
            clear hnews
            have b2 : Below w2.heap.size v3 v4 := own_below Ob.out hg (Nat.le_refl _) hws
            rw [Nat.zero_add, List.nil_append] at ho
            rw [Nat.zero_add]
            have hatb : g4 = w2.heap.size ∨ g4 = v3.heap.size := by
              rcases hat with h | h
              · have h' : some w2.heap.size = some g4 := h
                injection h' with h'
                exact .inl h'.symm
              · exact .inr h
            replace Ra := Lib.hid (row_far Ob.out hg Ra.out (fun b hb => by have h' : some w2.heap.size = some b := hb; injection h' with h'; omega))
            have hHeld2 := Hld.later2 hHeld b2 (by omega) (by omega); clear hHeld
            replace X1 := Lib.hid (X1.out.keep (b2.mono (by have := X1.out.top; have := HX.out.top; omega)) (Nat.le_refl _))
            replace B1 := Lib.hid (B1.out.trans (b2.mono (by omega)))
            replace A1 := Lib.hid (A1.out.keep b2 (by omega))
            have Rb := Lib.hid ((Row.of_own ho).one hltb)
            have hcb := (own_cap ho).2
            have s_4 := b2.size
            clear ho hg hat b2 Ob
            refine hK.out _ _ hHeld2 (fun hHeld => ?_)
            clear hK K hHeld2
            refine wpAnyH_ready (rs := [8, 9]) (by kernel_rfl) (by simp) (AllReadyH.cons rfl (fun K hK => ?_) (AllReadyH.cons rfl (fun K hK => ?_) AllReadyH.nil))
            · refine step_build rfl 30 _ rfl [(0, .slice (some ⟨g3, 0, none⟩) m c3), (1, .slice (some ⟨g4, 0, none⟩) m c4)] rfl #[.slice (some ⟨g3, 0, none⟩) m c3, .slice (some ⟨g4, 0, none⟩) m c4] (built_two _ _ _ _ _ _) ?_
              refine hK.out _ _ hHeld (fun hHeld2 => ?_)
              have hHeld := hHeld2
              clear hK K hHeld2
              refine wpAnyH_ready (rs := [9]) (by kernel_rfl) (by simp) (AllReadyH.cons rfl (fun K hK => ?_) AllReadyH.nil)
              go_simp
              have b1 : Below v4.heap.size v4 (v4.alloc (.cells #[.slice none 0 0, .slice none 0 0] 30)) := (Below.refl _ _).alloc (Nat.le_refl _) _
              have s_6 : v4.heap.size < (v4.alloc (.cells #[.slice none 0 0, .slice none 0 0] 30)).heap.size := by simp
              have al := Lib.hid (Arr.new v4 [.slice none 0 0, .slice none 0 0] 30 rfl)
              replace X1 := Lib.hid (X1.out.keep b1 X1.out.top); replace B1 := Lib.hid (B1.out.trans (b1.mono B1.out.size)); replace A1 := Lib.hid (A1.out.keep b1 A1.out.lt)
              replace Ra := Lib.hid (Ra.out.keep b1 Ra.out.2.1)
              replace Rb := Lib.hid (Rb.out.keep b1 Rb.out.2.1)
              have hHeld2 := hHeld.later b1 (by omega); clear hHeld b1
              refine hK.out _ _ hHeld2 (fun hHeld => ?_)
              clear hK K hHeld2
              generalize v4.alloc (.cells #[.slice none 0 0, .slice none 0 0] 30) = v6 at *
              have AL := al; clear al
              refine wpAnyH_ready (rs := [10]) (by kernel_rfl) (by simp) (AllReadyH.cons rfl (fun K hK => ?_) AllReadyH.nil)
              refine step_store_row rfl 30 _ _ rfl (v4.heap.size) #[.slice (some ⟨g3, 0, none⟩) m c3, .slice (some ⟨g4, 0, none⟩) m c4] rfl rfl 30 #[.slice none 0 0, .slice none 0 0] AL.out size2 rfl (by simp [Value.oneCell']) ?_
              change K (Act.put _ none _) _
              simp only [Act.put]
              refine hK.out _ _ (hHeld.other (by omega) (by simp; omega) _) (fun hHeld2 => ?_)
              clear hK K hHeld hHeld2
              refine wpAnyH_done (by kernel_rfl) ?_ _
              go_wp2_with fail
              go_meet
              exact ⟨_, rfl, _, _, _, _, _, _, _, _, AL.out.row, row_set Ra.out (by omega) _, row_set Rb.out (by omega) _, hca, hcb, by omega, by omega, by omega, by omega, by omega, by omega, A1.out.rowOther (by omega), below_setRow B1.out (by omega) _⟩
            · go_simp
              have b1 : Below v4.heap.size v4 (v4.alloc (.cells #[.slice none 0 0, .slice none 0 0] 30)) := (Below.refl _ _).alloc (Nat.le_refl _) _
              have s_5 : v4.heap.size < (v4.alloc (.cells #[.slice none 0 0, .slice none 0 0] 30)).heap.size := by simp
              have al := Lib.hid (Arr.new v4 [.slice none 0 0, .slice none 0 0] 30 rfl)
              replace X1 := Lib.hid (X1.out.keep b1 X1.out.top); replace B1 := Lib.hid (B1.out.trans (b1.mono B1.out.size)); replace A1 := Lib.hid (A1.out.keep b1 A1.out.lt)
              replace Ra := Lib.hid (Ra.out.keep b1 Ra.out.2.1)
              replace Rb := Lib.hid (Rb.out.keep b1 Rb.out.2.1)
              have hHeld2 := hHeld.later b1 (by omega); clear hHeld b1
              refine hK.out _ _ hHeld2 (fun hHeld => ?_)
              clear hK K hHeld2
              generalize v4.alloc (.cells #[.slice none 0 0, .slice none 0 0] 30) = v5 at *
              have AL := al; clear al
              refine wpAnyH_ready (rs := [8]) (by kernel_rfl) (by simp) (AllReadyH.cons rfl (fun K hK => ?_) AllReadyH.nil)
              refine step_build rfl 30 _ rfl [(0, .slice (some ⟨g3, 0, none⟩) m c3), (1, .slice (some ⟨g4, 0, none⟩) m c4)] rfl #[.slice (some ⟨g3, 0, none⟩) m c3, .slice (some ⟨g4, 0, none⟩) m c4] (built_two _ _ _ _ _ _) ?_
              refine hK.out _ _ hHeld (fun hHeld2 => ?_)
              have hHeld := hHeld2
              clear hK K hHeld2
              refine wpAnyH_ready (rs := [10]) (by kernel_rfl) (by simp) (AllReadyH.cons rfl (fun K hK => ?_) AllReadyH.nil)
              refine step_store_row rfl 30 _ _ rfl (v4.heap.size) #[.slice (some ⟨g3, 0, none⟩) m c3, .slice (some ⟨g4, 0, none⟩) m c4] rfl rfl 30 #[.slice none 0 0, .slice none 0 0] AL.out size2 rfl (by simp [Value.oneCell']) ?_
              change K (Act.put (Act.put _ (some 15) _) none _) _
              simp only [Act.put, List.setIfInBounds_toArray, List.set_cons_zero, List.set_cons_succ]
              refine hK.out _ _ (hHeld.other (by omega) (by simp; omega) _) (fun hHeld2 => ?_)
              clear hK K hHeld hHeld2
              refine wpAnyH_done (by kernel_rfl) ?_ _
              go_wp2_with fail
              go_meet
              exact ⟨_, rfl, _, _, _, _, _, _, _, _, AL.out.row, row_set Ra.out (by omega) _, row_set Rb.out (by omega) _, hca, hcb, by omega, by omega, by omega, by omega, by omega, by omega, A1.out.rowOther (by omega), below_setRow B1.out (by omega) _⟩
          · go_simp
            have b1 : Below v3.heap.size v3 (v3.alloc (.cells #[.slice none 0 0, .slice none 0 0] 30)) := (Below.refl _ _).alloc (Nat.le_refl _) _
            have s_4 : v3.heap.size < (v3.alloc (.cells #[.slice none 0 0, .slice none 0 0] 30)).heap.size := by simp
            have al := Lib.hid (Arr.new v3 [.slice none 0 0, .slice none 0 0] 30 rfl)
            replace X1 := Lib.hid (X1.out.keep b1 X1.out.top); replace B1 := Lib.hid (B1.out.trans (b1.mono B1.out.size)); replace A1 := Lib.hid (A1.out.keep b1 A1.out.lt)
            replace Ob := Lib.hid (own_keep Ob.out b1 (by omega))
            replace Ra := Lib.hid (Ra.out.keep b1 Ra.out.2.1)
            have hHeld2 := hHeld.later b1 (by omega); clear hHeld b1
            refine hK.out _ _ hHeld2 (fun hHeld => ?_)
            clear hK K hHeld2
            generalize v3.alloc (.cells #[.slice none 0 0, .slice none 0 0] 30) = v4 at *
            have AL := al; clear al
            refine wpAnyH_ready (rs := [7]) (by kernel_rfl) (by simp) (AllReadyH.cons rfl (fun K hK => ?_) AllReadyH.nil)
            have hnews : ∀ (j : Nat) (q : Value), (V u)[j]? = some q → v4.cell? ((⟨Q0, p0, none⟩ : Addr).add j) = some q := fun j q hq => by
              have hj : j < m := by have := (List.getElem?_eq_some_iff.1 hq).1; rw [V_len, Q2.out] at this; exact this
              obtain ⟨g, off, u', e, _, h1, h2⟩ := (Srd.snd X1.out).at_ hj
              injection e with e; injection e with e1 e2 e3
              subst e1; subst e2
              rw [h1] at hq
              have : (⟨Q0, p0, none⟩ : Addr).add j = ⟨Q0, p0 + j, none⟩ := by simp [Addr.add]
              rw [this, h2, ← hq]
            have hws : w2.heap.size ≤ v4.heap.size := by omega
            refine step_append_lies v4 rfl _ _ 24 rfl w2.heap.size 3 i0 _ 1 8 Try.underlying24 hi0 hz0 hz1 hz2 rfl (by decide) _ 0 [] rfl Ob.out ⟨Q0, p0, none⟩ m d (V u) rfl (by rw [V_len, Q2.out, Nat.mul_one]) hnews (fun q hq => by obtain ⟨z, _, rfl⟩ := List.mem_map.1 hq; rfl) hN0 (by unfold maxLen; omega) (by omega) hws _ rfl ?_
            intro g4 c4 v5 ho hg hat hltb
            clear hnews
            have b2 : Below w2.heap.size v4 v5 := own_below Ob.out hg (Nat.le_refl _) hws
            rw [Nat.zero_add, List.nil_append] at ho
            rw [Nat.zero_add]
            have hatb : g4 = w2.heap.size ∨ g4 = v4.heap.size := by
              rcases hat with h | h
              · have h' : some w2.heap.size = some g4 := h
                injection h' with h'
                exact .inl h'.symm
              · exact .inr h
            replace Ra := Lib.hid (row_far Ob.out hg Ra.out (fun b hb => by have h' : some w2.heap.size = some b := hb; injection h' with h'; omega))
            replace AL := Lib.hid (arr_far AL.out hg (b := w2.heap.size) rfl (by omega))
            have hHeld2 := Hld.later2 hHeld b2 (by omega) (by omega); clear hHeld
            replace X1 := Lib.hid (X1.out.keep (b2.mono (by have := X1.out.top; have := HX.out.top; omega)) (Nat.le_refl _))
            replace B1 := Lib.hid (B1.out.trans (b2.mono (by omega)))
            replace A1 := Lib.hid (A1.out.keep b2 (by omega))
            have Rb := Lib.hid ((Row.of_own ho).one hltb)
            have hcb := (own_cap ho).2
            have s_5 := b2.size
            clear ho hg hat b2 Ob
            refine hK.out _ _ hHeld2 (fun hHeld => ?_)
            clear hK K hHeld2
            refine wpAnyH_ready (rs := [8]) (by kernel_rfl) (by simp) (AllReadyH.cons rfl (fun K hK => ?_) AllReadyH.nil)
            refine step_build rfl 30 _ rfl [(0, .slice (some ⟨g3, 0, none⟩) m c3), (1, .slice (some ⟨g4, 0, none⟩) m c4)] rfl #[.slice (some ⟨g3, 0, none⟩) m c3, .slice (some ⟨g4, 0, none⟩) m c4] (built_two _ _ _ _ _ _) ?_
            refine hK.out _ _ hHeld (fun hHeld2 => ?_)
            have hHeld := hHeld2
            clear hK K hHeld2
            refine wpAnyH_ready (rs := [10]) (by kernel_rfl) (by simp) (AllReadyH.cons rfl (fun K hK => ?_) AllReadyH.nil)
            refine step_store_row rfl 30 _ _ rfl (v3.heap.size) #[.slice (some ⟨g3, 0, none⟩) m c3, .slice (some ⟨g4, 0, none⟩) m c4] rfl rfl 30 #[.slice none 0 0, .slice none 0 0] AL.out size2 rfl (by simp [Value.oneCell']) ?_
            change K (Act.put (Act.put (Act.put _ (some 14) _) (some 15) _) none _) _
            simp only [Act.put, List.setIfInBounds_toArray, List.set_cons_zero, List.set_cons_succ]
            refine hK.out _ _ (hHeld.other (by omega) (by simp; omega) _) (fun hHeld2 => ?_)
            clear hK K hHeld hHeld2
            refine wpAnyH_done (by kernel_rfl) ?_ _
            go_wp2_with fail
            go_meet
            exact ⟨_, rfl, _, _, _, _, _, _, _, _, AL.out.row, row_set Ra.out (by omega) _, row_set Rb.out (by omega) _, hca, hcb, by omega, by omega, by omega, by omega, by omega, by omega, A1.out.rowOther (by omega), below_setRow B1.out (by omega) _⟩
        · go_simp
          have b1 : Below v2.heap.size v2 (v2.alloc (.cells #[.slice none 0 0, .slice none 0 0] 30)) := (Below.refl _ _).alloc (Nat.le_refl _) _
          have s_3 : v2.heap.size < (v2.alloc (.cells #[.slice none 0 0, .slice none 0 0] 30)).heap.size := by simp
          have al := Lib.hid (Arr.new v2 [.slice none 0 0, .slice none 0 0] 30 rfl)
          replace X1 := Lib.hid (X1.out.keep b1 X1.out.top); replace B1 := Lib.hid (B1.out.trans (b1.mono B1.out.size)); replace A1 := Lib.hid (A1.out.keep b1 A1.out.lt)
          replace Oa := Lib.hid (own_keep Oa.out b1 (by omega))
          replace Ob := Lib.hid (own_keep Ob.out b1 (by omega))
          have hHeld2 := hHeld.later b1 (by omega); clear hHeld b1
          refine hK.out _ _ hHeld2 (fun hHeld => ?_)
          clear hK K hHeld2
          generalize v2.alloc (.cells #[.slice none 0 0, .slice none 0 0] 30) = v3 at *
          have AL := al; clear al
          refine wpAnyH_ready (rs := [3]) (by kernel_rfl) (by simp) (AllReadyH.cons rfl (fun K hK => ?_) AllReadyH.nil)
          have hnews : ∀ (j : Nat) (q : Value), (V r)[j]? = some q → v3.cell? ((⟨P0, o0, none⟩ : Addr).add j) = some q := fun j q hq => by
            have hj : j < m := by have := (List.getElem?_eq_some_iff.1 hq).1; rw [V_len, Q1.out] at this; exact this
            obtain ⟨g, off, u', e, _, h1, h2⟩ := (Srd.fst X1.out).at_ hj
            injection e with e; injection e with e1 e2 e3
            subst e1; subst e2
            rw [h1] at hq
            have : (⟨P0, o0, none⟩ : Addr).add j = ⟨P0, o0 + j, none⟩ := by simp [Addr.add]
            rw [this, h2, ← hq]
          have hws : v1.heap.size ≤ v3.heap.size := by omega
          refine step_append_lies v3 rfl _ _ 24 rfl v1.heap.size 3 i0 _ 1 8 Try.underlying24 hi0 hz0 hz1 hz2 rfl (by decide) _ 0 [] rfl Oa.out ⟨P0, o0, none⟩ m c (V r) rfl (by rw [V_len, Q1.out, Nat.mul_one]) hnews (fun q hq => by obtain ⟨z, _, rfl⟩ := List.mem_map.1 hq; rfl) hN0 (by unfold maxLen; omega) (by omega) hws _ rfl ?_
          intro g3 c3 v4 ho hg hat hlta
          clear hnews
          have b2 : Below v1.heap.size v3 v4 := own_below Oa.out hg (Nat.le_refl _) hws
          rw [Nat.zero_add, List.nil_append] at ho
          rw [Nat.zero_add]
          have hata : g3 = v1.heap.size ∨ g3 = v3.heap.size := by
            rcases hat with h | h
            · have h' : some v1.heap.size = some g3 := h
              injection h' with h'
              exact .inl h'.symm
            · exact .inr h
          replace Ob := Lib.hid (own_far Ob.out hg (b := v1.heap.size) rfl (by omega))
          replace AL := Lib.hid (arr_far AL.out hg (b := v1.heap.size) rfl (by omega))
          have hHeld2 := Hld.later2 hHeld b2 (by omega) (by omega); clear hHeld
          replace X1 := Lib.hid (X1.out.keep (b2.mono (by have := X1.out.top; have := HX.out.top; omega)) (Nat.le_refl _))
          replace B1 := Lib.hid (B1.out.trans (b2.mono (by omega)))
          replace A1 := Lib.hid (A1.out.keep b2 (by omega))
          have Ra := Lib.hid ((Row.of_own ho).one hlta)
          have hca := (own_cap ho).2
          have s_4 := b2.size
          clear ho hg hat b2 Oa
          refine hK.out _ _ hHeld2 (fun hHeld => ?_)
          clear hK K hHeld2
          refine wpAnyH_ready (rs := [7]) (by kernel_rfl) (by simp) (AllReadyH.cons rfl (fun K hK => ?_) AllReadyH.nil)
          have hnews : ∀ (j : Nat) (q : Value), (V u)[j]? = some q → v4.cell? ((⟨Q0, p0, none⟩ : Addr).add j) = some q := fun j q hq => by
            have hj : j < m := by have := (List.getElem?_eq_some_iff.1 hq).1; rw [V_len, Q2.out] at this; exact this
            obtain ⟨g, off, u', e, _, h1, h2⟩ := (Srd.snd X1.out).at_ hj
            injection e with e; injection e with e1 e2 e3
            subst e1; subst e2
            rw [h1] at hq
            have : (⟨Q0, p0, none⟩ : Addr).add j = ⟨Q0, p0 + j, none⟩ := by simp [Addr.add]
            rw [this, h2, ← hq]
          have hws : w2.heap.size ≤ v4.heap.size := by omega
          refine step_append_lies v4 rfl _ _ 24 rfl w2.heap.size 3 i0 _ 1 8 Try.underlying24 hi0 hz0 hz1 hz2 rfl (by decide) _ 0 [] rfl Ob.out ⟨Q0, p0, none⟩ m d (V u) rfl (by rw [V_len, Q2.out, Nat.mul_one]) hnews (fun q hq => by obtain ⟨z, _, rfl⟩ := List.mem_map.1 hq; rfl) hN0 (by unfold maxLen; omega) (by omega) hws _ rfl ?_
          intro g4 c4 v5 ho hg hat hltb
          clear hnews
          have b2 : Below w2.heap.size v4 v5 := own_below Ob.out hg (Nat.le_refl _) hws
          rw [Nat.zero_add, List.nil_append] at ho
          rw [Nat.zero_add]
          have hatb : g4 = w2.heap.size ∨ g4 = v4.heap.size := by
            rcases hat with h | h
            · have h' : some w2.heap.size = some g4 := h
              injection h' with h'
              exact .inl h'.symm
            · exact .inr h
          replace Ra := Lib.hid (row_far Ob.out hg Ra.out (fun b hb => by have h' : some w2.heap.size = some b := hb; injection h' with h'; omega))
          replace AL := Lib.hid (arr_far AL.out hg (b := w2.heap.size) rfl (by omega))
          have hHeld2 := Hld.later2 hHeld b2 (by omega) (by omega); clear hHeld
          replace X1 := Lib.hid (X1.out.keep (b2.mono (by have := X1.out.top; have := HX.out.top; omega)) (Nat.le_refl _))
          replace B1 := Lib.hid (B1.out.trans (b2.mono (by omega)))
          replace A1 := Lib.hid (A1.out.keep b2 (by omega))
          have Rb := Lib.hid ((Row.of_own ho).one hltb)
          have hcb := (own_cap ho).2
          have s_5 := b2.size
          clear ho hg hat b2 Ob
          refine hK.out _ _ hHeld2 (fun hHeld => ?_)
          clear hK K hHeld2
          refine wpAnyH_ready (rs := [8]) (by kernel_rfl) (by simp) (AllReadyH.cons rfl (fun K hK => ?_) AllReadyH.nil)
          refine step_build rfl 30 _ rfl [(0, .slice (some ⟨g3, 0, none⟩) m c3), (1, .slice (some ⟨g4, 0, none⟩) m c4)] rfl #[.slice (some ⟨g3, 0, none⟩) m c3, .slice (some ⟨g4, 0, none⟩) m c4] (built_two _ _ _ _ _ _) ?_
          refine hK.out _ _ hHeld (fun hHeld2 => ?_)
          have hHeld := hHeld2
          clear hK K hHeld2
          refine wpAnyH_ready (rs := [10]) (by kernel_rfl) (by simp) (AllReadyH.cons rfl (fun K hK => ?_) AllReadyH.nil)
          refine step_store_row rfl 30 _ _ rfl (v2.heap.size) #[.slice (some ⟨g3, 0, none⟩) m c3, .slice (some ⟨g4, 0, none⟩) m c4] rfl rfl 30 #[.slice none 0 0, .slice none 0 0] AL.out size2 rfl (by simp [Value.oneCell']) ?_
          change K (Act.put (Act.put (Act.put (Act.put _ (some 10) _) (some 14) _) (some 15) _) none _) _
          simp only [Act.put, List.setIfInBounds_toArray, List.set_cons_zero, List.set_cons_succ]
          refine hK.out _ _ (hHeld.other (by omega) (by simp; omega) _) (fun hHeld2 => ?_)
          clear hK K hHeld hHeld2
          refine wpAnyH_done (by kernel_rfl) ?_ _
          go_wp2_with fail
          go_meet
          exact ⟨_, rfl, _, _, _, _, _, _, _, _, AL.out.row, row_set Ra.out (by omega) _, row_set Rb.out (by omega) _, hca, hcb, by omega, by omega, by omega, by omega, by omega, by omega, A1.out.rowOther (by omega), below_setRow B1.out (by omega) _⟩
      · go_simp
        have b1 : Below v1.heap.size v1 (v1.alloc (.cells #[.slice none 0 0, .slice none 0 0] 30)) := (Below.refl _ _).alloc (Nat.le_refl _) _
        have s_2 : v1.heap.size < (v1.alloc (.cells #[.slice none 0 0, .slice none 0 0] 30)).heap.size := by simp
        have al := Lib.hid (Arr.new v1 [.slice none 0 0, .slice none 0 0] 30 rfl)
        replace X1 := Lib.hid (X1.out.keep b1 X1.out.top); replace B1 := Lib.hid (B1.out.trans (b1.mono B1.out.size)); replace A1 := Lib.hid (A1.out.keep b1 A1.out.lt)
        replace Ob := Lib.hid (own_keep Ob.out b1 (by omega))
        have hHeld2 := hHeld.later b1 (by omega); clear hHeld b1
        refine hK.out _ _ hHeld2 (fun hHeld => ?_)
        clear hK K hHeld2
        generalize v1.alloc (.cells #[.slice none 0 0, .slice none 0 0] 30) = v2 at *
        have AL := al; clear al
        refine wpAnyH_ready (rs := [0]) (by kernel_rfl) (by simp) (AllReadyH.cons rfl (fun K hK => ?_) AllReadyH.nil)
        go_simp
        have b1 : Below v2.heap.size v2 (v2.alloc (.cells #[] 3)) := (Below.refl _ _).alloc (Nat.le_refl _) _
        have s_3 : v2.heap.size < (v2.alloc (.cells #[] 3)).heap.size := by simp
        have oa := Lib.hid (Grows.empty v2).own
        replace X1 := Lib.hid (X1.out.keep b1 X1.out.top); replace B1 := Lib.hid (B1.out.trans (b1.mono B1.out.size)); replace A1 := Lib.hid (A1.out.keep b1 A1.out.lt)
        replace Ob := Lib.hid (own_keep Ob.out b1 (by omega))
        replace AL := Lib.hid (AL.out.keep b1 AL.out.lt)
        have hHeld2 := hHeld.later b1 (by omega); clear hHeld b1
        refine hK.out _ _ hHeld2 (fun hHeld => ?_)
        clear hK K hHeld2
        generalize v2.alloc (.cells #[] 3) = v3 at *
        have Oa := oa; clear oa
        refine wpAnyH_ready (rs := [3]) (by kernel_rfl) (by simp) (AllReadyH.cons rfl (fun K hK => ?_) AllReadyH.nil)
        have hnews : ∀ (j : Nat) (q : Value), (V r)[j]? = some q → v3.cell? ((⟨P0, o0, none⟩ : Addr).add j) = some q := fun j q hq => by
          have hj : j < m := by have := (List.getElem?_eq_some_iff.1 hq).1; rw [V_len, Q1.out] at this; exact this
          obtain ⟨g, off, u', e, _, h1, h2⟩ := (Srd.fst X1.out).at_ hj
          injection e with e; injection e with e1 e2 e3
          subst e1; subst e2
          rw [h1] at hq
          have : (⟨P0, o0, none⟩ : Addr).add j = ⟨P0, o0 + j, none⟩ := by simp [Addr.add]
          rw [this, h2, ← hq]
        have hws : v2.heap.size ≤ v3.heap.size := by omega
        refine step_append_lies v3 rfl _ _ 24 rfl v2.heap.size 3 i0 _ 1 8 Try.underlying24 hi0 hz0 hz1 hz2 rfl (by decide) _ 0 [] rfl Oa.out ⟨P0, o0, none⟩ m c (V r) rfl (by rw [V_len, Q1.out, Nat.mul_one]) hnews (fun q hq => by obtain ⟨z, _, rfl⟩ := List.mem_map.1 hq; rfl) hN0 (by unfold maxLen; omega) (by omega) hws _ rfl ?_
        intro g3 c3 v4 ho hg hat hlta
        clear hnews
        have b2 : Below v2.heap.size v3 v4 := own_below Oa.out hg (Nat.le_refl _) hws
        rw [Nat.zero_add, List.nil_append] at ho
        rw [Nat.zero_add]
        have hata : g3 = v2.heap.size ∨ g3 = v3.heap.size := by
          rcases hat with h | h
          · have h' : some v2.heap.size = some g3 := h
            injection h' with h'
            exact .inl h'.symm
          · exact .inr h
        replace Ob := Lib.hid (own_far Ob.out hg (b := v2.heap.size) rfl (by omega))
        replace AL := Lib.hid (arr_far AL.out hg (b := v2.heap.size) rfl (by omega))
        have hHeld2 := Hld.later2 hHeld b2 (by omega) (by omega); clear hHeld
        replace X1 := Lib.hid (X1.out.keep (b2.mono (by have := X1.out.top; have := HX.out.top; omega)) (Nat.le_refl _))
        replace B1 := Lib.hid (B1.out.trans (b2.mono (by omega)))
        replace A1 := Lib.hid (A1.out.keep b2 (by omega))
        have Ra := Lib.hid ((Row.of_own ho).one hlta)
        have hca := (own_cap ho).2
        have s_4 := b2.size
        clear ho hg hat b2 Oa
        refine hK.out _ _ hHeld2 (fun hHeld => ?_)
        clear hK K hHeld2
        refine wpAnyH_ready (rs := [7]) (by kernel_rfl) (by simp) (AllReadyH.cons rfl (fun K hK => ?_) AllReadyH.nil)
        have hnews : ∀ (j : Nat) (q : Value), (V u)[j]? = some q → v4.cell? ((⟨Q0, p0, none⟩ : Addr).add j) = some q := fun j q hq => by
          have hj : j < m := by have := (List.getElem?_eq_some_iff.1 hq).1; rw [V_len, Q2.out] at this; exact this
          obtain ⟨g, off, u', e, _, h1, h2⟩ := (Srd.snd X1.out).at_ hj
          injection e with e; injection e with e1 e2 e3
          subst e1; subst e2
          rw [h1] at hq
          have : (⟨Q0, p0, none⟩ : Addr).add j = ⟨Q0, p0 + j, none⟩ := by simp [Addr.add]
          rw [this, h2, ← hq]
        have hws : w2.heap.size ≤ v4.heap.size := by omega
        refine step_append_lies v4 rfl _ _ 24 rfl w2.heap.size 3 i0 _ 1 8 Try.underlying24 hi0 hz0 hz1 hz2 rfl (by decide) _ 0 [] rfl Ob.out ⟨Q0, p0, none⟩ m d (V u) rfl (by rw [V_len, Q2.out, Nat.mul_one]) hnews (fun q hq => by obtain ⟨z, _, rfl⟩ := List.mem_map.1 hq; rfl) hN0 (by unfold maxLen; omega) (by omega) hws _ rfl ?_
        intro g4 c4 v5 ho hg hat hltb
        clear hnews
        have b2 : Below w2.heap.size v4 v5 := own_below Ob.out hg (Nat.le_refl _) hws
        rw [Nat.zero_add, List.nil_append] at ho
        rw [Nat.zero_add]
        have hatb : g4 = w2.heap.size ∨ g4 = v4.heap.size := by
          rcases hat with h | h
          · have h' : some w2.heap.size = some g4 := h
            injection h' with h'
            exact .inl h'.symm
          · exact .inr h
        replace Ra := Lib.hid (row_far Ob.out hg Ra.out (fun b hb => by have h' : some w2.heap.size = some b := hb; injection h' with h'; omega))
        replace AL := Lib.hid (arr_far AL.out hg (b := w2.heap.size) rfl (by omega))
        have hHeld2 := Hld.later2 hHeld b2 (by omega) (by omega); clear hHeld
        replace X1 := Lib.hid (X1.out.keep (b2.mono (by have := X1.out.top; have := HX.out.top; omega)) (Nat.le_refl _))
        replace B1 := Lib.hid (B1.out.trans (b2.mono (by omega)))
        replace A1 := Lib.hid (A1.out.keep b2 (by omega))
        have Rb := Lib.hid ((Row.of_own ho).one hltb)
        have hcb := (own_cap ho).2
        have s_5 := b2.size
        clear ho hg hat b2 Ob
        refine hK.out _ _ hHeld2 (fun hHeld => ?_)
        clear hK K hHeld2
        refine wpAnyH_ready (rs := [8]) (by kernel_rfl) (by simp) (AllReadyH.cons rfl (fun K hK => ?_) AllReadyH.nil)
        refine step_build rfl 30 _ rfl [(0, .slice (some ⟨g3, 0, none⟩) m c3), (1, .slice (some ⟨g4, 0, none⟩) m c4)] rfl #[.slice (some ⟨g3, 0, none⟩) m c3, .slice (some ⟨g4, 0, none⟩) m c4] (built_two _ _ _ _ _ _) ?_
        refine hK.out _ _ hHeld (fun hHeld2 => ?_)
        have hHeld := hHeld2
        clear hK K hHeld2
        refine wpAnyH_ready (rs := [10]) (by kernel_rfl) (by simp) (AllReadyH.cons rfl (fun K hK => ?_) AllReadyH.nil)
        refine step_store_row rfl 30 _ _ rfl (v1.heap.size) #[.slice (some ⟨g3, 0, none⟩) m c3, .slice (some ⟨g4, 0, none⟩) m c4] rfl rfl 30 #[.slice none 0 0, .slice none 0 0] AL.out size2 rfl (by simp [Value.oneCell']) ?_
        change K (Act.put (Act.put (Act.put (Act.put _ (some 10) _) (some 14) _) (some 15) _) none _) _
        simp only [Act.put, List.setIfInBounds_toArray, List.set_cons_zero, List.set_cons_succ]
        refine hK.out _ _ (hHeld.other (by omega) (by simp; omega) _) (fun hHeld2 => ?_)
        clear hK K hHeld hHeld2
        refine wpAnyH_done (by kernel_rfl) ?_ _
        go_wp2_with fail
        go_meet
        exact ⟨_, rfl, _, _, _, _, _, _, _, _, AL.out.row, row_set Ra.out (by omega) _, row_set Rb.out (by omega) _, hca, hcb, by omega, by omega, by omega, by omega, by omega, by omega, A1.out.rowOther (by omega), below_setRow B1.out (by omega) _⟩
    · go_simp
      have b1 : Below w2.heap.size w2 (w2.alloc (.cells #[.slice none 0 0, .slice none 0 0] 30)) := (Below.refl _ _).alloc (Nat.le_refl _) _
      have s_1 : w2.heap.size < (w2.alloc (.cells #[.slice none 0 0, .slice none 0 0] 30)).heap.size := by simp
      have al := Lib.hid (Arr.new w2 [.slice none 0 0, .slice none 0 0] 30 rfl)
      replace X1 := Lib.hid (X1.out.keep b1 X1.out.top); replace B1 := Lib.hid (B1.out.trans (b1.mono B1.out.size)); replace A1 := Lib.hid (A1.out.keep b1 A1.out.lt)
      have hHeld2 := hHeld.later b1 (by omega); clear hHeld b1
      refine hK.out _ _ hHeld2 (fun hHeld => ?_)
      clear hK K hHeld2
      generalize w2.alloc (.cells #[.slice none 0 0, .slice none 0 0] 30) = v1 at *
      have AL := al; clear al
      refine wpAnyH_ready (rs := [0, 4]) (by kernel_rfl) (by simp) (AllReadyH.cons rfl (fun K hK => ?_) (AllReadyH.cons rfl (fun K hK => ?_) AllReadyH.nil))
      · go_simp
        have b1 : Below v1.heap.size v1 (v1.alloc (.cells #[] 3)) := (Below.refl _ _).alloc (Nat.le_refl _) _
        have s_2 : v1.heap.size < (v1.alloc (.cells #[] 3)).heap.size := by simp
        have oa := Lib.hid (Grows.empty v1).own
        replace X1 := Lib.hid (X1.out.keep b1 X1.out.top); replace B1 := Lib.hid (B1.out.trans (b1.mono B1.out.size)); replace A1 := Lib.hid (A1.out.keep b1 A1.out.lt)
        replace AL := Lib.hid (AL.out.keep b1 AL.out.lt)
        have hHeld2 := hHeld.later b1 (by omega); clear hHeld b1
        refine hK.out _ _ hHeld2 (fun hHeld => ?_)
        clear hK K hHeld2
        generalize v1.alloc (.cells #[] 3) = v2 at *
        have Oa := oa; clear oa
        refine wpAnyH_ready (rs := [3, 4]) (by kernel_rfl) (by simp) (AllReadyH.cons rfl (fun K hK => ?_) (AllReadyH.cons rfl (fun K hK => ?_) AllReadyH.nil))
        · have hnews : ∀ (j : Nat) (q : Value), (V r)[j]? = some q → v2.cell? ((⟨P0, o0, none⟩ : Addr).add j) = some q := fun j q hq => by
            have hj : j < m := by have := (List.getElem?_eq_some_iff.1 hq).1; rw [V_len, Q1.out] at this; exact this
            obtain ⟨g, off, u', e, _, h1, h2⟩ := (Srd.fst X1.out).at_ hj
            injection e with e; injection e with e1 e2 e3
            subst e1; subst e2
            rw [h1] at hq
            have : (⟨P0, o0, none⟩ : Addr).add j = ⟨P0, o0 + j, none⟩ := by simp [Addr.add]
            rw [this, h2, ← hq]
          have hws : v1.heap.size ≤ v2.heap.size := by omega
          refine step_append_lies v2 rfl _ _ 24 rfl v1.heap.size 3 i0 _ 1 8 Try.underlying24 hi0 hz0 hz1 hz2 rfl (by decide) _ 0 [] rfl Oa.out ⟨P0, o0, none⟩ m c (V r) rfl (by rw [V_len, Q1.out, Nat.mul_one]) hnews (fun q hq => by obtain ⟨z, _, rfl⟩ := List.mem_map.1 hq; rfl) hN0 (by unfold maxLen; omega) (by omega) hws _ rfl ?_
          intro g3 c3 v3 ho hg hat hlta
          clear hnews
          have b2 : Below v1.heap.size v2 v3 := own_below Oa.out hg (Nat.le_refl _) hws
          rw [Nat.zero_add, List.nil_append] at ho
          rw [Nat.zero_add]
          have hata : g3 = v1.heap.size ∨ g3 = v2.heap.size := by
            rcases hat with h | h
            · have h' : some v1.heap.size = some g3 := h
              injection h' with h'
              exact .inl h'.symm
            · exact .inr h
          replace AL := Lib.hid (arr_far AL.out hg (b := v1.heap.size) rfl (by omega))
          have hHeld2 := Hld.later2 hHeld b2 (by omega) (by omega); clear hHeld
          replace X1 := Lib.hid (X1.out.keep (b2.mono (by have := X1.out.top; have := HX.out.top; omega)) (Nat.le_refl _))
          replace B1 := Lib.hid (B1.out.trans (b2.mono (by omega)))
          replace A1 := Lib.hid (A1.out.keep b2 (by omega))
          have Ra := Lib.hid ((Row.of_own ho).one hlta)
          have hca := (own_cap ho).2
          have s_3 := b2.size
          clear ho hg hat b2 Oa
          refine hK.out _ _ hHeld2 (fun hHeld => ?_)
          clear hK K hHeld2
          refine wpAnyH_ready (rs := [4]) (by kernel_rfl) (by simp) (AllReadyH.cons rfl (fun K hK => ?_) AllReadyH.nil)
          go_simp
          have b1 : Below v3.heap.size v3 (v3.alloc (.cells #[] 3)) := (Below.refl _ _).alloc (Nat.le_refl _) _
          have s_4 : v3.heap.size < (v3.alloc (.cells #[] 3)).heap.size := by simp
          have ob := Lib.hid (Grows.empty v3).own
          replace X1 := Lib.hid (X1.out.keep b1 X1.out.top); replace B1 := Lib.hid (B1.out.trans (b1.mono B1.out.size)); replace A1 := Lib.hid (A1.out.keep b1 A1.out.lt)
          replace Ra := Lib.hid (Ra.out.keep b1 Ra.out.2.1)
          replace AL := Lib.hid (AL.out.keep b1 AL.out.lt)
          have hHeld2 := hHeld.later b1 (by omega); clear hHeld b1
          refine hK.out _ _ hHeld2 (fun hHeld => ?_)
          clear hK K hHeld2
          generalize v3.alloc (.cells #[] 3) = v4 at *
          have Ob := ob; clear ob
          refine wpAnyH_ready (rs := [7]) (by kernel_rfl) (by simp) (AllReadyH.cons rfl (fun K hK => ?_) AllReadyH.nil)
          have hnews : ∀ (j : Nat) (q : Value), (V u)[j]? = some q → v4.cell? ((⟨Q0, p0, none⟩ : Addr).add j) = some q := fun j q hq => by
            have hj : j < m := by have := (List.getElem?_eq_some_iff.1 hq).1; rw [V_len, Q2.out] at this; exact this
            obtain ⟨g, off, u', e, _, h1, h2⟩ := (Srd.snd X1.out).at_ hj
            injection e with e; injection e with e1 e2 e3
            subst e1; subst e2
            rw [h1] at hq
            have : (⟨Q0, p0, none⟩ : Addr).add j = ⟨Q0, p0 + j, none⟩ := by simp [Addr.add]
            rw [this, h2, ← hq]
          have hws : v3.heap.size ≤ v4.heap.size := by omega
          refine step_append_lies v4 rfl _ _ 24 rfl v3.heap.size 3 i0 _ 1 8 Try.underlying24 hi0 hz0 hz1 hz2 rfl (by decide) _ 0 [] rfl Ob.out ⟨Q0, p0, none⟩ m d (V u) rfl (by rw [V_len, Q2.out, Nat.mul_one]) hnews (fun q hq => by obtain ⟨z, _, rfl⟩ := List.mem_map.1 hq; rfl) hN0 (by unfold maxLen; omega) (by omega) hws _ rfl ?_
          intro g4 c4 v5 ho hg hat hltb
          clear hnews
          have b2 : Below v3.heap.size v4 v5 := own_below Ob.out hg (Nat.le_refl _) hws
          rw [Nat.zero_add, List.nil_append] at ho
          rw [Nat.zero_add]
          have hatb : g4 = v3.heap.size ∨ g4 = v4.heap.size := by
            rcases hat with h | h
            · have h' : some v3.heap.size = some g4 := h
              injection h' with h'
              exact .inl h'.symm
            · exact .inr h
          replace Ra := Lib.hid (row_far Ob.out hg Ra.out (fun b hb => by have h' : some v3.heap.size = some b := hb; injection h' with h'; omega))
          replace AL := Lib.hid (arr_far AL.out hg (b := v3.heap.size) rfl (by omega))
          have hHeld2 := Hld.later2 hHeld b2 (by omega) (by omega); clear hHeld
          replace X1 := Lib.hid (X1.out.keep (b2.mono (by have := X1.out.top; have := HX.out.top; omega)) (Nat.le_refl _))
          replace B1 := Lib.hid (B1.out.trans (b2.mono (by omega)))
          replace A1 := Lib.hid (A1.out.keep b2 (by omega))
          have Rb := Lib.hid ((Row.of_own ho).one hltb)
          have hcb := (own_cap ho).2
          have s_5 := b2.size
          clear ho hg hat b2 Ob
          refine hK.out _ _ hHeld2 (fun hHeld => ?_)
          clear hK K hHeld2
          refine wpAnyH_ready (rs := [8]) (by kernel_rfl) (by simp) (AllReadyH.cons rfl (fun K hK => ?_) AllReadyH.nil)
          refine step_build rfl 30 _ rfl [(0, .slice (some ⟨g3, 0, none⟩) m c3), (1, .slice (some ⟨g4, 0, none⟩) m c4)] rfl #[.slice (some ⟨g3, 0, none⟩) m c3, .slice (some ⟨g4, 0, none⟩) m c4] (built_two _ _ _ _ _ _) ?_
          refine hK.out _ _ hHeld (fun hHeld2 => ?_)
          have hHeld := hHeld2
          clear hK K hHeld2
          refine wpAnyH_ready (rs := [10]) (by kernel_rfl) (by simp) (AllReadyH.cons rfl (fun K hK => ?_) AllReadyH.nil)
          refine step_store_row rfl 30 _ _ rfl (w2.heap.size) #[.slice (some ⟨g3, 0, none⟩) m c3, .slice (some ⟨g4, 0, none⟩) m c4] rfl rfl 30 #[.slice none 0 0, .slice none 0 0] AL.out size2 rfl (by simp [Value.oneCell']) ?_
          change K (Act.put (Act.put (Act.put _ (some 14) _) (some 15) _) none _) _
          simp only [Act.put, List.setIfInBounds_toArray, List.set_cons_zero, List.set_cons_succ]
          refine hK.out _ _ (hHeld.other (by omega) (by simp; omega) _) (fun hHeld2 => ?_)
          clear hK K hHeld hHeld2
          refine wpAnyH_done (by kernel_rfl) ?_ _
          go_wp2_with fail
          go_meet
          exact ⟨_, rfl, _, _, _, _, _, _, _, _, AL.out.row, row_set Ra.out (by omega) _, row_set Rb.out (by omega) _, hca, hcb, by omega, by omega, by omega, by omega, by omega, by omega, A1.out.rowOther (by omega), below_setRow B1.out (by omega) _⟩
        · go_simp
          have b1 : Below v2.heap.size v2 (v2.alloc (.cells #[] 3)) := (Below.refl _ _).alloc (Nat.le_refl _) _
          have s_3 : v2.heap.size < (v2.alloc (.cells #[] 3)).heap.size := by simp
          have ob := Lib.hid (Grows.empty v2).own
          replace X1 := Lib.hid (X1.out.keep b1 X1.out.top); replace B1 := Lib.hid (B1.out.trans (b1.mono B1.out.size)); replace A1 := Lib.hid (A1.out.keep b1 A1.out.lt)
          replace Oa := Lib.hid (own_keep Oa.out b1 (by omega))
          replace AL := Lib.hid (AL.out.keep b1 AL.out.lt)
          have hHeld2 := hHeld.later b1 (by omega); clear hHeld b1
          refine hK.out _ _ hHeld2 (fun hHeld => ?_)
          clear hK K hHeld2
          generalize v2.alloc (.cells #[] 3) = v3 at *
          have Ob := ob; clear ob
          refine wpAnyH_ready (rs := [3]) (by kernel_rfl) (by simp) (AllReadyH.cons rfl (fun K hK => ?_) AllReadyH.nil)
          have hnews : ∀ (j : Nat) (q : Value), (V r)[j]? = some q → v3.cell? ((⟨P0, o0, none⟩ : Addr).add j) = some q := fun j q hq => by
            have hj : j < m := by have := (List.getElem?_eq_some_iff.1 hq).1; rw [V_len, Q1.out] at this; exact this
            obtain ⟨g, off, u', e, _, h1, h2⟩ := (Srd.fst X1.out).at_ hj
            injection e with e; injection e with e1 e2 e3
            subst e1; subst e2
            rw [h1] at hq
            have : (⟨P0, o0, none⟩ : Addr).add j = ⟨P0, o0 + j, none⟩ := by simp [Addr.add]
            rw [this, h2, ← hq]
          have hws : v1.heap.size ≤ v3.heap.size := by omega
          refine step_append_lies v3 rfl _ _ 24 rfl v1.heap.size 3 i0 _ 1 8 Try.underlying24 hi0 hz0 hz1 hz2 rfl (by decide) _ 0 [] rfl Oa.out ⟨P0, o0, none⟩ m c (V r) rfl (by rw [V_len, Q1.out, Nat.mul_one]) hnews (fun q hq => by obtain ⟨z, _, rfl⟩ := List.mem_map.1 hq; rfl) hN0 (by unfold maxLen; omega) (by omega) hws _ rfl ?_
          intro g3 c3 v4 ho hg hat hlta
          clear hnews
          have b2 : Below v1.heap.size v3 v4 := own_below Oa.out hg (Nat.le_refl _) hws
          rw [Nat.zero_add, List.nil_append] at ho
          rw [Nat.zero_add]
          have hata : g3 = v1.heap.size ∨ g3 = v3.heap.size := by
            rcases hat with h | h
            · have h' : some v1.heap.size = some g3 := h
              injection h' with h'
              exact .inl h'.symm
            · exact .inr h
          replace Ob := Lib.hid (own_far Ob.out hg (b := v1.heap.size) rfl (by omega))
          replace AL := Lib.hid (arr_far AL.out hg (b := v1.heap.size) rfl (by omega))
          have hHeld2 := Hld.later2 hHeld b2 (by omega) (by omega); clear hHeld
          replace X1 := Lib.hid (X1.out.keep (b2.mono (by have := X1.out.top; have := HX.out.top; omega)) (Nat.le_refl _))
          replace B1 := Lib.hid (B1.out.trans (b2.mono (by omega)))
          replace A1 := Lib.hid (A1.out.keep b2 (by omega))
          have Ra := Lib.hid ((Row.of_own ho).one hlta)
          have hca := (own_cap ho).2
          have s_4 := b2.size
          clear ho hg hat b2 Oa
          refine hK.out _ _ hHeld2 (fun hHeld => ?_)
          clear hK K hHeld2
          refine wpAnyH_ready (rs := [7]) (by kernel_rfl) (by simp) (AllReadyH.cons rfl (fun K hK => ?_) AllReadyH.nil)
          have hnews : ∀ (j : Nat) (q : Value), (V u)[j]? = some q → v4.cell? ((⟨Q0, p0, none⟩ : Addr).add j) = some q := fun j q hq => by
            have hj : j < m := by have := (List.getElem?_eq_some_iff.1 hq).1; rw [V_len, Q2.out] at this; exact this
            obtain ⟨g, off, u', e, _, h1, h2⟩ := (Srd.snd X1.out).at_ hj
            injection e with e; injection e with e1 e2 e3
            subst e1; subst e2
            rw [h1] at hq
            have : (⟨Q0, p0, none⟩ : Addr).add j = ⟨Q0, p0 + j, none⟩ := by simp [Addr.add]
            rw [this, h2, ← hq]
          have hws : v2.heap.size ≤ v4.heap.size := by omega
          refine step_append_lies v4 rfl _ _ 24 rfl v2.heap.size 3 i0 _ 1 8 Try.underlying24 hi0 hz0 hz1 hz2 rfl (by decide) _ 0 [] rfl Ob.out ⟨Q0, p0, none⟩ m d (V u) rfl (by rw [V_len, Q2.out, Nat.mul_one]) hnews (fun q hq => by obtain ⟨z, _, rfl⟩ := List.mem_map.1 hq; rfl) hN0 (by unfold maxLen; omega) (by omega) hws _ rfl ?_
          intro g4 c4 v5 ho hg hat hltb
          clear hnews
          have b2 : Below v2.heap.size v4 v5 := own_below Ob.out hg (Nat.le_refl _) hws
          rw [Nat.zero_add, List.nil_append] at ho
          rw [Nat.zero_add]
          have hatb : g4 = v2.heap.size ∨ g4 = v4.heap.size := by
            rcases hat with h | h
            · have h' : some v2.heap.size = some g4 := h
              injection h' with h'
              exact .inl h'.symm
            · exact .inr h
          replace Ra := Lib.hid (row_far Ob.out hg Ra.out (fun b hb => by have h' : some v2.heap.size = some b := hb; injection h' with h'; omega))
          replace AL := Lib.hid (arr_far AL.out hg (b := v2.heap.size) rfl (by omega))
          have hHeld2 := Hld.later2 hHeld b2 (by omega) (by omega); clear hHeld
          replace X1 := Lib.hid (X1.out.keep (b2.mono (by have := X1.out.top; have := HX.out.top; omega)) (Nat.le_refl _))
          replace B1 := Lib.hid (B1.out.trans (b2.mono (by omega)))
          replace A1 := Lib.hid (A1.out.keep b2 (by omega))
          have Rb := Lib.hid ((Row.of_own ho).one hltb)
          have hcb := (own_cap ho).2
          have s_5 := b2.size
          clear ho hg hat b2 Ob
          refine hK.out _ _ hHeld2 (fun hHeld => ?_)
          clear hK K hHeld2
          refine wpAnyH_ready (rs := [8]) (by kernel_rfl) (by simp) (AllReadyH.cons rfl (fun K hK => ?_) AllReadyH.nil)
          refine step_build rfl 30 _ rfl [(0, .slice (some ⟨g3, 0, none⟩) m c3), (1, .slice (some ⟨g4, 0, none⟩) m c4)] rfl #[.slice (some ⟨g3, 0, none⟩) m c3, .slice (some ⟨g4, 0, none⟩) m c4] (built_two _ _ _ _ _ _) ?_
          refine hK.out _ _ hHeld (fun hHeld2 => ?_)
          have hHeld := hHeld2
          clear hK K hHeld2
          refine wpAnyH_ready (rs := [10]) (by kernel_rfl) (by simp) (AllReadyH.cons rfl (fun K hK => ?_) AllReadyH.nil)
          refine step_store_row rfl 30 _ _ rfl (w2.heap.size) #[.slice (some ⟨g3, 0, none⟩) m c3, .slice (some ⟨g4, 0, none⟩) m c4] rfl rfl 30 #[.slice none 0 0, .slice none 0 0] AL.out size2 rfl (by simp [Value.oneCell']) ?_
          change K (Act.put (Act.put (Act.put (Act.put _ (some 10) _) (some 14) _) (some 15) _) none _) _
          simp only [Act.put, List.setIfInBounds_toArray, List.set_cons_zero, List.set_cons_succ]
          refine hK.out _ _ (hHeld.other (by omega) (by simp; omega) _) (fun hHeld2 => ?_)
          clear hK K hHeld hHeld2
          refine wpAnyH_done (by kernel_rfl) ?_ _
          go_wp2_with fail
          go_meet
          exact ⟨_, rfl, _, _, _, _, _, _, _, _, AL.out.row, row_set Ra.out (by omega) _, row_set Rb.out (by omega) _, hca, hcb, by omega, by omega, by omega, by omega, by omega, by omega, A1.out.rowOther (by omega), below_setRow B1.out (by omega) _⟩
      · go_simp
        have b1 : Below v1.heap.size v1 (v1.alloc (.cells #[] 3)) := (Below.refl _ _).alloc (Nat.le_refl _) _
        have s_2 : v1.heap.size < (v1.alloc (.cells #[] 3)).heap.size := by simp
        have ob := Lib.hid (Grows.empty v1).own
        replace X1 := Lib.hid (X1.out.keep b1 X1.out.top); replace B1 := Lib.hid (B1.out.trans (b1.mono B1.out.size)); replace A1 := Lib.hid (A1.out.keep b1 A1.out.lt)
        replace AL := Lib.hid (AL.out.keep b1 AL.out.lt)
        have hHeld2 := hHeld.later b1 (by omega); clear hHeld b1
        refine hK.out _ _ hHeld2 (fun hHeld => ?_)
        clear hK K hHeld2
        generalize v1.alloc (.cells #[] 3) = v2 at *
        have Ob := ob; clear ob
        refine wpAnyH_ready (rs := [0]) (by kernel_rfl) (by simp) (AllReadyH.cons rfl (fun K hK => ?_) AllReadyH.nil)
        go_simp
        have b1 : Below v2.heap.size v2 (v2.alloc (.cells #[] 3)) := (Below.refl _ _).alloc (Nat.le_refl _) _
        have s_3 : v2.heap.size < (v2.alloc (.cells #[] 3)).heap.size := by simp
        have oa := Lib.hid (Grows.empty v2).own
        replace X1 := Lib.hid (X1.out.keep b1 X1.out.top); replace B1 := Lib.hid (B1.out.trans (b1.mono B1.out.size)); replace A1 := Lib.hid (A1.out.keep b1 A1.out.lt)
        replace Ob := Lib.hid (own_keep Ob.out b1 (by omega))
        replace AL := Lib.hid (AL.out.keep b1 AL.out.lt)
        have hHeld2 := hHeld.later b1 (by omega); clear hHeld b1
        refine hK.out _ _ hHeld2 (fun hHeld => ?_)
        clear hK K hHeld2
        generalize v2.alloc (.cells #[] 3) = v3 at *
        have Oa := oa; clear oa
        refine wpAnyH_ready (rs := [3]) (by kernel_rfl) (by simp) (AllReadyH.cons rfl (fun K hK => ?_) AllReadyH.nil)
        have hnews : ∀ (j : Nat) (q : Value), (V r)[j]? = some q → v3.cell? ((⟨P0, o0, none⟩ : Addr).add j) = some q := fun j q hq => by
          have hj : j < m := by have := (List.getElem?_eq_some_iff.1 hq).1; rw [V_len, Q1.out] at this; exact this
          obtain ⟨g, off, u', e, _, h1, h2⟩ := (Srd.fst X1.out).at_ hj
          injection e with e; injection e with e1 e2 e3
          subst e1; subst e2
          rw [h1] at hq
          have : (⟨P0, o0, none⟩ : Addr).add j = ⟨P0, o0 + j, none⟩ := by simp [Addr.add]
          rw [this, h2, ← hq]
        have hws : v2.heap.size ≤ v3.heap.size := by omega
        refine step_append_lies v3 rfl _ _ 24 rfl v2.heap.size 3 i0 _ 1 8 Try.underlying24 hi0 hz0 hz1 hz2 rfl (by decide) _ 0 [] rfl Oa.out ⟨P0, o0, none⟩ m c (V r) rfl (by rw [V_len, Q1.out, Nat.mul_one]) hnews (fun q hq => by obtain ⟨z, _, rfl⟩ := List.mem_map.1 hq; rfl) hN0 (by unfold maxLen; omega) (by omega) hws _ rfl ?_
        intro g3 c3 v4 ho hg hat hlta
        clear hnews
        have b2 : Below v2.heap.size v3 v4 := own_below Oa.out hg (Nat.le_refl _) hws
        rw [Nat.zero_add, List.nil_append] at ho
        rw [Nat.zero_add]
        have hata : g3 = v2.heap.size ∨ g3 = v3.heap.size := by
          rcases hat with h | h
          · have h' : some v2.heap.size = some g3 := h
            injection h' with h'
            exact .inl h'.symm
          · exact .inr h
        replace Ob := Lib.hid (own_far Ob.out hg (b := v2.heap.size) rfl (by omega))
        replace AL := Lib.hid (arr_far AL.out hg (b := v2.heap.size) rfl (by omega))
        have hHeld2 := Hld.later2 hHeld b2 (by omega) (by omega); clear hHeld
        replace X1 := Lib.hid (X1.out.keep (b2.mono (by have := X1.out.top; have := HX.out.top; omega)) (Nat.le_refl _))
        replace B1 := Lib.hid (B1.out.trans (b2.mono (by omega)))
        replace A1 := Lib.hid (A1.out.keep b2 (by omega))
        have Ra := Lib.hid ((Row.of_own ho).one hlta)
        have hca := (own_cap ho).2
        have s_4 := b2.size
        clear ho hg hat b2 Oa
        refine hK.out _ _ hHeld2 (fun hHeld => ?_)
        clear hK K hHeld2
        refine wpAnyH_ready (rs := [7]) (by kernel_rfl) (by simp) (AllReadyH.cons rfl (fun K hK => ?_) AllReadyH.nil)
        have hnews : ∀ (j : Nat) (q : Value), (V u)[j]? = some q → v4.cell? ((⟨Q0, p0, none⟩ : Addr).add j) = some q := fun j q hq => by
          have hj : j < m := by have := (List.getElem?_eq_some_iff.1 hq).1; rw [V_len, Q2.out] at this; exact this
          obtain ⟨g, off, u', e, _, h1, h2⟩ := (Srd.snd X1.out).at_ hj
          injection e with e; injection e with e1 e2 e3
          subst e1; subst e2
          rw [h1] at hq
          have : (⟨Q0, p0, none⟩ : Addr).add j = ⟨Q0, p0 + j, none⟩ := by simp [Addr.add]
          rw [this, h2, ← hq]
        have hws : v1.heap.size ≤ v4.heap.size := by omega
        refine step_append_lies v4 rfl _ _ 24 rfl v1.heap.size 3 i0 _ 1 8 Try.underlying24 hi0 hz0 hz1 hz2 rfl (by decide) _ 0 [] rfl Ob.out ⟨Q0, p0, none⟩ m d (V u) rfl (by rw [V_len, Q2.out, Nat.mul_one]) hnews (fun q hq => by obtain ⟨z, _, rfl⟩ := List.mem_map.1 hq; rfl) hN0 (by unfold maxLen; omega) (by omega) hws _ rfl ?_
        intro g4 c4 v5 ho hg hat hltb
        clear hnews
        have b2 : Below v1.heap.size v4 v5 := own_below Ob.out hg (Nat.le_refl _) hws
        rw [Nat.zero_add, List.nil_append] at ho
        rw [Nat.zero_add]
        have hatb : g4 = v1.heap.size ∨ g4 = v4.heap.size := by
          rcases hat with h | h
          · have h' : some v1.heap.size = some g4 := h
            injection h' with h'
            exact .inl h'.symm
          · exact .inr h
        replace Ra := Lib.hid (row_far Ob.out hg Ra.out (fun b hb => by have h' : some v1.heap.size = some b := hb; injection h' with h'; omega))
        replace AL := Lib.hid (arr_far AL.out hg (b := v1.heap.size) rfl (by omega))
        have hHeld2 := Hld.later2 hHeld b2 (by omega) (by omega); clear hHeld
        replace X1 := Lib.hid (X1.out.keep (b2.mono (by have := X1.out.top; have := HX.out.top; omega)) (Nat.le_refl _))
        replace B1 := Lib.hid (B1.out.trans (b2.mono (by omega)))
        replace A1 := Lib.hid (A1.out.keep b2 (by omega))
        have Rb := Lib.hid ((Row.of_own ho).one hltb)
        have hcb := (own_cap ho).2
        have s_5 := b2.size
        clear ho hg hat b2 Ob
        refine hK.out _ _ hHeld2 (fun hHeld => ?_)
        clear hK K hHeld2
        refine wpAnyH_ready (rs := [8]) (by kernel_rfl) (by simp) (AllReadyH.cons rfl (fun K hK => ?_) AllReadyH.nil)
        refine step_build rfl 30 _ rfl [(0, .slice (some ⟨g3, 0, none⟩) m c3), (1, .slice (some ⟨g4, 0, none⟩) m c4)] rfl #[.slice (some ⟨g3, 0, none⟩) m c3, .slice (some ⟨g4, 0, none⟩) m c4] (built_two _ _ _ _ _ _) ?_
        refine hK.out _ _ hHeld (fun hHeld2 => ?_)
        have hHeld := hHeld2
        clear hK K hHeld2
        refine wpAnyH_ready (rs := [10]) (by kernel_rfl) (by simp) (AllReadyH.cons rfl (fun K hK => ?_) AllReadyH.nil)
        refine step_store_row rfl 30 _ _ rfl (w2.heap.size) #[.slice (some ⟨g3, 0, none⟩) m c3, .slice (some ⟨g4, 0, none⟩) m c4] rfl rfl 30 #[.slice none 0 0, .slice none 0 0] AL.out size2 rfl (by simp [Value.oneCell']) ?_
        change K (Act.put (Act.put (Act.put (Act.put _ (some 10) _) (some 14) _) (some 15) _) none _) _
        simp only [Act.put, List.setIfInBounds_toArray, List.set_cons_zero, List.set_cons_succ]
        refine hK.out _ _ (hHeld.other (by omega) (by simp; omega) _) (fun hHeld2 => ?_)
        clear hK K hHeld hHeld2
        refine wpAnyH_done (by kernel_rfl) ?_ _
        go_wp2_with fail
        go_meet
        exact ⟨_, rfl, _, _, _, _, _, _, _, _, AL.out.row, row_set Ra.out (by omega) _, row_set Rb.out (by omega) _, hca, hcb, by omega, by omega, by omega, by omega, by omega, by omega, A1.out.rowOther (by omega), below_setRow B1.out (by omega) _⟩
  case rest =>
    clear A0 A1 B1 X1 es
    obtain ⟨B5, rfl, hbx⟩ := hcut
    have HB := Lib.hid hbx; clear hbx
    go_wp2_with fail
    go_loopw [6] (fun i wr => ∃ k : Nat, k ≤ s.size ∧ i = .int .i64 k ∧ Bx w wr B5 m (runS (s.data.toList.take k) (r, u)).1 (runS (s.data.toList.take k) (r, u)).2) (fun i _ => s.size - (intOf i).toNat)
    case atStart => exact ⟨0, Nat.zero_le _, rfl, HB.out⟩
    case round =>
      clear HB
      obtain ⟨k, hk, rfl, hr⟩ := hrel
      by_cases hlt : k < s.size
      · have LS := Lib.hid (wok_at HW.out hlt)
        have ST : Hid (runS (s.data.toList.take (k + 1)) (r, u) = letS s[k] (runS (s.data.toList.take k) (r, u))) := Lib.hid (by rw [take_snoc s k hlt, runS_snoc])
        have SK := Lib.hid (runS_sf (s.data.toList.take k) (r, u) HS.out)
        obtain ⟨rk, hrk⟩ : ∃ q, q = (runS (s.data.toList.take k) (r, u)) := ⟨_, rfl⟩
        rw [← hrk] at hr ST SK
        clear hrk
        obtain ⟨ru, uu⟩ := rk
        obtain ⟨P1, c1, Q1', d1, l1, h1, l2, h2, AB, R1, R2, hc1, hd1, hl1, hl2, ap, a1, a2, hB5, A4, BB⟩ := hr
        have HAB := Lib.hid AB; have HR1 := Lib.hid R1; have HR2 := Lib.hid R2; have HA4 := Lib.hid A4; have HBB := Lib.hid BB
        clear AB R1 R2 A4 BB
        go_wp2_with fail
        refine wp_region_still_tail 4 (by kernel_rfl) (by kernel_rfl) ?_
        simp only [List.take_succ_cons, List.take_zero, List.drop_succ_cons, List.drop_zero]
        have b1 : Below wr.heap.size wr wr.drew := ⟨rfl, rfl, rfl, Nat.le_refl _, fun _ _ => rfl⟩
        change wpStill _ _ wr.drew _ _ _
        replace HAB := Lib.hid (HAB.out.keep b1 HAB.out.lt); replace HA4 := Lib.hid (HA4.out.keep b1 HA4.out.lt)
        replace HR1 := Lib.hid (HR1.out.keep b1 HR1.out.2.1); replace HR2 := Lib.hid (HR2.out.keep b1 HR2.out.2.1)
        replace HBB := Lib.hid (HBB.out.trans (b1.mono HBB.out.size))
        generalize hw4 : wr.drew = w4 at *
        clear b1
        refine still_take (v := .agg #[.slice P1 m c1, .slice Q1' m d1]) (yieldsIf_load_mid (by rfl) _ _ rfl B5 0 rfl [.slice P1 m c1, .slice Q1' m d1] _ (fun W h => by subst h; exact fun j v hv => by rw [Nat.zero_add]; exact HAB.out.cell hv) Try.underlying30 rfl (sizeS _ _)) ?_
        refine still_take (v := .string s) (Or.inl ⟨by rfl, fun w hSw => by go_simp⟩) ?_
        refine still_take (v := .int .i64 (k : Int)) (Or.inl ⟨by rfl, fun w hSw => by go_simp⟩) ?_
        refine still_take (v := .int .u8 (s[k].toNat : Int)) (Or.inl ⟨by rfl, fun w hSw => by go_simp⟩) ?_
        refine wpStill_nil ?_
        change wpList _ _ _ _ _ wr.drew
        rw [hw4]
        clear hw4
        go_wp2_with fail
        refine (letter_spec (.agg #[.slice P1 m c1, .slice Q1' m d1]) ru uu m w4.heap.size _ ⟨P1, m, c1, Q1', m, d1, rfl, (HR1.out.wider (Nat.zero_le _) HR1.out.2.1 (Nat.le_refl _)).rd, (HR2.out.wider (Nat.zero_le _) HR2.out.2.1 (Nat.le_refl _)).rd, hc1, hd1⟩ SK.out s[k] LS.out).mono ?_
        rintro e w5 ⟨g, rfl, sg, b1⟩
        have s5 := b1.size
        have hb5 : B5 < w4.heap.size := HAB.out.lt
        replace HAB := Lib.hid (HAB.out.keep b1 HAB.out.lt); replace HA4 := Lib.hid (HA4.out.keep b1 HA4.out.lt)
        have hw4s := HBB.out.size
        have hA4 := HA4.out.lt
        replace HBB := Lib.hid (HBB.out.trans (b1.mono HBB.out.size))
        clear b1 HR1 HR2
        have LK := Lib.hid (letS_sf SK.out s[k])
        rw [← ST.out] at sg LK
        obtain ⟨P6, n6, c6, Q6, m6, d6, l6, h6, l7, h7, rfl, R6, R7, hc6, hd6, f1, f2, f3, f4, f5, f6⟩ := sg
        obtain rfl : n6 = m := by have h := R6.1; rw [V_len, LK.out.lr] at h; exact h.symm
        obtain rfl : m6 = n6 := by have h := R7.1; rw [V_len, LK.out.lu] at h; exact h.symm
        have HR6 := Lib.hid R6; have HR7 := Lib.hid R7; clear R6 R7
        go_wp2_with (refine wpList_store_row rfl 30 _ _ rfl B5 #[.slice P6 m6 c6, .slice Q6 m6 d6] rfl rfl 30 #[.slice P1 m6 c1, .slice Q1' m6 d1] HAB.out size2 rfl (by simp [Value.oneCell']) ?_)
        have HN : Hid (Bx w (w5.setRow B5 #[.slice P6 m6 c6, .slice Q6 m6 d6]) B5 m6 (runS (s.data.toList.take (k + 1)) (r, u)).1 (runS (s.data.toList.take (k + 1)) (r, u)).2) := Lib.hid
          ⟨_, _, _, _, _, _, _, _, HAB.out.row, row_set HR6.out (by omega) _, row_set HR7.out (by omega) _, hc6, hd6, by omega, by omega, f5, by omega, by omega, hB5, HA4.out.rowOther (by omega), below_setRow HBB.out (by omega) _⟩
        generalize w5.setRow B5 #[.slice P6 m6 c6, .slice Q6 m6 d6] = w6 at *
        clear HAB HA4 HBB HR6 HR7
        go_wp2_with fail
        go_roundw
        case rel => exact ⟨k + 1, by omega, by go_num, HN.out⟩
        case measure => simp [intOf]; omega
      · obtain rfl : k = s.size := by omega
        have e : s.data.toList.take s.size = s.data.toList := List.take_of_length_le (by simp)
        rw [e] at hr; clear e
        obtain ⟨rk, hrk⟩ : ∃ q, q = runS s.data.toList (r, u) := ⟨_, rfl⟩
        rw [← hrk] at hr
        have HRK := Lib.hid hrk; clear hrk
        obtain ⟨ru, uu⟩ := rk
        obtain ⟨P1, c1, Q1', d1, l1, h1, l2, h2, AB, R1, R2, hc1, hd1, hl1, hl2, ap, a1, a2, hB5, A4, BB⟩ := hr
        have HAB := Lib.hid AB; have HR1 := Lib.hid R1; have HR2 := Lib.hid R2; have HA4 := Lib.hid A4; have HBB := Lib.hid BB
        clear AB R1 R2 A4 BB
        have k0 := HAB.out.cell (k := 0) rfl
        have k1 := HAB.out.cell (k := 1) rfl
        go_wp2_with (refine wpList_store_row rfl 30 _ _ rfl (w.heap.size + 1) #[.slice P1 m c1, .slice Q1' m d1] rfl rfl 30 #[.slice none 0 0, .slice none 0 0] HA4.out size2 rfl (by simp [Value.oneCell']) ?_)
        exact bodyPost_ret (v := .agg #[.slice P1 m c1, .slice Q1' m d1]) (results_cell_row rfl _ _ (w.heap.size + 1) 30 #[.slice P1 m c1, .slice Q1' m d1] (0, 0) _ rfl HA4.out.row Try.underlying30 rfl size2) rfl (by
          rw [← HRK.out]
          have t1 := row_set (g := w.heap.size + 1) HR1.out (by omega) #[.slice P1 m c1, .slice Q1' m d1]
          have t2 := row_set (g := w.heap.size + 1) HR2.out (by omega) #[.slice P1 m c1, .slice Q1' m d1]
          exact ⟨_, rfl, mk3 t1 t2 hc1 hd1 (by omega) (by omega) ap, below_setRow HBB.out (by omega) _⟩)
end Go.Proofs.Ytpbbfbpggedgpaa.rw
